/-
  Contracts of the digests of layer 2 (sha). No statement of the seed is proved here.
-/
import Derived.Test.YtmhigipljplgdaaDoorSha7
import Derived.Test.YtmhigipljplgdaaDoorRdL
namespace Go.Proofs.YtmhigipljplgdaaDoor
open Go.RowKit
set_option linter.unusedVariables false

theorem built47 : Tryd.prog.built 68 [(0, .agg (wvs st0.l).toArray)] = some (wkc st0 (List.replicate 64 0) 0 0).toArray := by kernel_rfl
def zw : List Value := List.replicate 8 (.int .u32 0) ++ (List.replicate 64 (.int .u8 0) ++ [.int .i64 0, .int .u64 0])
theorem zero74 : (Tryd.prog.info? 68).bind (·.zero) = some (.agg zw.toArray) := by kernel_rfl
theorem size74 : (Tryd.prog.info? 68).map (·.size) = some 74 := by kernel_rfl
theorem wkc_one (s : St) (blk : List UInt8) (held len : Int) : ∀ u ∈ wkc s blk held len, u.oneCell' = true := by
  intro u hu
  unfold wkc at hu
  rw [List.mem_append, List.mem_append] at hu
  rcases hu with hu | hu | hu
  · exact wvs_one _ u hu
  · exact bvs_one _ u hu
  · simp at hu
    rcases hu with rfl | rfl <;> rfl

set_option maxRecDepth 100000 in
set_option maxHeartbeats 4000000 in
theorem digest_any (A : Option Addr) (n c : Nat) (ls : List (List UInt8)) (w : World) (hr : RdL w A n c ls) (hgl : Glob w) (hL : ls.flatten.length < 1099511600000) :
    Calls Tryd.prog 20 #[.slice A n c] w (KeyRet (shaSum ls.flatten) w) := by
  have hgl2 := hgl.lt
  have hm := hr.most
  have hcc := hr.cap
  unfold maxLen at hm
  obtain ⟨X, hX⟩ : ∃ X, X = wkc st0 (List.replicate 64 0) 0 0 := ⟨_, rfl⟩
  have hXl : X.length = 74 := by rw [hX]; exact wkc_length _ _ _ _ (by simp)
  have hX1 : ∀ u ∈ X, u.oneCell' = true := by rw [hX]; exact wkc_one _ _ _ _
  have hXb : Tryd.prog.built 68 [(0, .agg (wvs st0.l).toArray)] = some X.toArray := by rw [hX]; exact built47
  have hXs : (Tryd.prog.info? 68).map (·.size) = some X.length := by rw [hXl]; exact size74
  have hXz : zw.length = X.length := by rw [hXl]; rfl
  have HX := Lib.hid hX
  have HX1 := Lib.hid hX1
  have HXb := Lib.hid hXb
  have HXs := Lib.hid hXs
  have HXz := Lib.hid hXz
  clear hX hXl hX1 hXb hXs hXz
  go_enter Tryd.func20, Tryd.ntmps20
  go_wp2_with (with_reducible change wpList _ _ _ (⟨_, Op.alloc _, _, _, _, _⟩ :: _) _ _; refine wpList_alloc_blk rfl 32 rfl _ zero32 ?_)
  intro w1 hR1 hk1 hs1
  have hgl1 := hgl.kept0 hk1
  have hrange : w1.rangeAt 0 0 (wvs st0.l) := fun j v hv => by
    have hj : j < 8 := (List.getElem?_eq_some_iff.1 hv).1
    rw [Nat.zero_add, hgl1.1 j hj, ← hv, wvs_get st0.l j hj]
  have Hr := Lib.hid hrange
  clear hrange
  go_wp2_with (first
    | (with_reducible change wpList _ _ _ (⟨_, Op.load _ _, _, _, _, _⟩ :: _) _ _; refine wpList_load_mid rfl 65 (.global 0) rfl 0 0 rfl (wvs st0.l) _ Hr.out Tryd.underlying65 rfl (size8w st0) ?_)
    | (with_reducible change wpList _ _ _ (⟨_, Op.build _ _, _, _, _, _⟩ :: _) _ _; refine wpList_buildTo rfl 68 _ rfl _ rfl X.toArray (by simpa [Act.eval, Act.put] using HXb.out) ?_)
    | (with_reducible change wpList _ _ _ (⟨_, Op.alloc _, _, _, _, _⟩ :: _) _ _; refine wpList_alloc_blk rfl 68 rfl _ zero74 ?_))
  intro w2 hG2 hk2 hs2
  go_wp2_with (with_reducible change wpList _ _ _ (⟨_, Op.store _ _ _, _, _, _, _⟩ :: _) _ _; refine wpList_store_blk rfl 68 (.tmp 3) (.tmp 7) rfl (w.heap.size + 1) X rfl rfl 68 zw hG2 HXs.out HXz.out HX1.out ?_)
  intro w3 hG3 hk3 hs3
  have hK3 : Kept [] w w3 := (hk1.andThen hk2).trans hk3 (by simp)
  have hR3 := (hR1.kept0 hk2).kept hk3 (by simp)
  have hW3 : WkL w3 (w.heap.size + 1) 68 [] 0 := ⟨List.replicate 64 0, by simp, by rw [HX.out] at hG3; exact hG3, rfl⟩
  have hgl3 := hgl.kept0 hK3
  have hlen := hr.len
  clear hR1 hk1 hs1 hG2 hk2 hs2 hk3 hs3 hG3 Hr hgl1 hgl
  go_wp2
  go_loopw [10] (fun i wr => ∃ k : Nat, k ≤ n ∧ i = .int .i64 k ∧ WkL wr (w.heap.size + 1) 68 (ls.take k).flatten (ls.take k).flatten.length ∧ Glob wr ∧ Kept [] w wr ∧ Blk wr w.heap.size 32 (zb 32)) (fun i _ => n - (intOf i).toNat)
  case atStart => exact ⟨0, by omega, rfl, hW3, hgl3, hK3, hR3⟩
  case round =>
    clear hW3 hgl3 hK3 hR3
    obtain ⟨k, hk, rfl, hW, hgl, hK, hR⟩ := hrel
    by_cases hlt : k < n
    · obtain ⟨b, off, rfl, hb, hcs⟩ := hr.cells (by omega)
      have hkl : k < ls.length := by omega
      obtain ⟨Aj, nj, cj, c0, hrj0⟩ := hcs k hkl
      have c1 := (hK.cell (p := ⟨b, off + k, none⟩) hb (by simp)).trans c0
      have hrj := hrj0.kept0 hK
      have hts : (ls.take (k + 1)).flatten = (ls.take k).flatten ++ ls[k] := by
        rw [take_step ls k ls[k] (List.getElem?_eq_getElem hkl), List.flatten_append]; simp
      have hbound : (ls.take k).flatten.length + nj < 1099511627776 := by
        have e1 := hrj.len
        have e2 : ls.flatten = (ls.take (k + 1)).flatten ++ (ls.drop (k + 1)).flatten := by rw [← List.flatten_append, List.take_append_drop]
        have e3 := congrArg List.length e2
        rw [hts, List.length_append, List.length_append] at e3
        omega
      have hoff : 0 < nj → Off Aj [w.heap.size + 1] := fun hp a ha hm => by
        obtain ⟨b2, o2, e2, hb2, _⟩ := hrj0.at_ hp
        rw [ha] at e2
        injection e2 with e2
        have := List.mem_singleton.1 hm
        rw [e2] at this
        simp at this
        omega
      have Hts := Lib.hid hts
      have Hlj := Lib.hid hrj.len
      clear hcs hts c0 hrj0
      generalize ls[k] = tk at *
      go_wp2_with fail
      refine (take_any (w.heap.size + 1) _ tk _ Aj nj cj _ hW hrj hoff hgl (by omega) hbound).mono ?_
      rintro e w4 ⟨rfl, hW4, hk4⟩
      have hgl4 := hgl.kept hk4 (fun hm => by have := List.mem_singleton.1 hm; omega) (fun hm => by have := List.mem_singleton.1 hm; omega)
      have hK4 : Kept [] w w4 := hK.trans hk4 (by simp)
      have hR4 := hR.kept hk4 (by simp)
      clear hW hgl hK hR hk4
      go_wp2
      go_roundw
      case rel => exact ⟨k + 1, by omega, by go_num, by rw [Hts.out, List.length_append, Hlj.out]; exact hW4, hgl4, hK4, hR4⟩
      case measure => simp [intOf]; omega
    · obtain rfl : k = n := by omega
      rw [List.take_of_length_le (by omega)] at hW
      go_wp2_with fail
      refine (wend_any (w.heap.size + 1) _ _ _ hW hgl (by omega) (by omega)).mono ?_
      rintro e w4 ⟨rfl, hW4, hk4⟩
      have hK4 : Kept [] w w4 := hK.trans hk4 (by simp)
      have hR4 := hR.kept hk4 (by simp)
      obtain ⟨blk, hl, hB, hw⟩ := hW4
      go_wp2_with fail
      refine (wkey_any (w.heap.size + 1) _ blk _ _ _ hB).mono ?_
      rintro e w5 ⟨rfl, hk5⟩
      have hsum : stBytes (run st0 (ls.flatten ++ tail8 ls.flatten.length)) = shaSum ls.flatten := by rw [shaSum_eq]; rfl
      rw [hsum]
      have hK5 := hK4.andThen hk5
      have hR5 := hR4.kept0 hk5
      have hi : (Tryd.prog.info? 32).map (·.size) = some (bvs (shaSum ls.flatten)).length := by rw [bvs_length, shaSum_length]; exact size32
      have hz : (zb 32).length = (bvs (shaSum ls.flatten)).length := by rw [bvs_length, shaSum_length]; simp [zb, bvs]
      have H1 := Lib.hid hi
      have H2 := Lib.hid hz
      clear hi hz hsum hW hgl hK hR hk4 hK4 hR4 hl hB hw hk5
      go_wp2_with (with_reducible change wpList _ _ _ (⟨_, Op.store _ _ _, _, _, _, _⟩ :: _) _ _; refine wpList_store_blk rfl 32 (.tmp 2) (.tmp 18) rfl w.heap.size (bvs (shaSum ls.flatten)) rfl rfl 32 (zb 32) hR5 H1.out H2.out (bvs_one _) ?_)
      intro w6 hR6 hk6 hs6
      go_wp2
      refine bodyPost_ret (results_blk rfl _ w.heap.size 32 _ _ rfl hR6 Tryd.underlying32 rfl H1.out) rfl ?_
      exact ⟨rfl, hK5.trans hk6 (by simp)⟩
end Go.Proofs.YtmhigipljplgdaaDoor
