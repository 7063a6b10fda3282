/-
  Walk of the fixed fact that layer 4's laws ask first; the document's own Extract; the walk of a law: any salt and text have the key that the document says. No statement of the seed is proved here.
-/
import Derived.Test.YtckffideobjlfaaDoorHk3
import Derived.Test.YtckffideobjlfaaDoorRh1
namespace Go.Proofs.YtckffideobjlfaaDoor
open Go.RowKit
set_option linter.unusedVariables false

theorem ex_get (j : Nat) (b : UInt8) (hj : j < 4) (h : ([60, 178, 95, 37] : List UInt8)[j]? = some b) : (hkE (hTag exSalt exKey) exInfo 42)[j]? = some b := by
  have h1 := congrArg (fun l : List UInt8 => l[j]?) ex4
  simp only [List.getElem?_take] at h1
  rw [if_pos hj, h] at h1
  exact h1
theorem exKey_get : ∀ k, k < 22 → exKey[k]? = some 11 := by decide +kernel

set_option maxRecDepth 100000 in
set_option maxHeartbeats 1000000 in
theorem wakes4_any (w : World) (hgl : Glob w) : Calls Tryd.prog 6 #[] w fun e w' => e = .returned (.bool true) ∧ Kept [] w w' := by
  obtain ⟨i0, hi, hz0, hz1, hz2⟩ := info_parts u8info
  have Hl : Hid (exKey.length = 22) := Lib.hid rfl
  go_enter Tryd.func6, Tryd.ntmps6
  go_wp2_with (with_reducible change wpList _ _ _ (⟨_, Op.makeSlice _ _ _, _, _, _, _⟩ :: _) _ _; refine wpList_make_bytes rfl _ _ 22 rfl 5 i0 Tryd.underlying22 hi hz0 hz1 hz2 _ _ _ _ 22 rfl rfl rfl rfl (by omega) ?_)
  intro w2 hown2 hk2
  obtain ⟨r, hr⟩ : ∃ r, r = w.heap.size := ⟨_, rfl⟩
  rw [← hr] at hown2 ⊢
  have hrw : w.heap.size ≤ r := by omega
  clear hr
  go_wp2
  go_loopw [10] (fun i wr => ∃ k : Nat, k ≤ 22 ∧ i = .int .i64 k ∧ OwB 5 wr (.slice (some ⟨r, 0, none⟩) 22 22) (exKey.take k ++ List.replicate (22 - k) 0) ∧ Kept [] w wr) (fun i _ => 22 - (intOf i).toNat)
  case atStart => exact ⟨0, by omega, rfl, by simpa using hown2, hk2⟩
  case round =>
    obtain ⟨k, hk, rfl, ho, hK⟩ := hrel
    clear hown2 hk2
    by_cases hlt : k < 22
    · have hkl : (exKey.take k).length = k := by rw [List.length_take]; have := Hl.out; omega
      have hy := exKey_get k hlt
      have hnew := ho.set k 11
      have hse := set_mid (exKey.take k) (22 - k) 11 (by omega)
      rw [hkl] at hse
      rw [hse, ← take_step exKey k 11 hy, Nat.sub_sub] at hnew
      have hfz := ho.fz k
      obtain ⟨b3, off3, y3, e3, c3, _, _⟩ := ho.rd.byte (k := k) (by omega)
      simp only [Option.some.injEq, Addr.mk.injEq] at e3
      obtain ⟨rfl, rfl, _⟩ := e3
      rw [Nat.zero_add] at c3
      have hkn : Kept [] w (wr.setCell ⟨r, k, none⟩ (.int .u8 11)) := hK.setCell (by right; exact hrw) _
      have hnew2 : OwB 5 (wr.setCell ⟨r, k, none⟩ (.int .u8 11)) (.slice (some ⟨r, 0, none⟩) 22 22) (exKey.take (k + 1) ++ List.replicate (22 - (k + 1)) 0) := hnew
      clear hse hkl hy ho hK hnew
      go_wp2
      go_roundw
      case rel => exact ⟨k + 1, by omega, by go_num, hnew2, hkn⟩
      case measure => simp [intOf]; omega
    · obtain rfl : k = 22 := by omega
      rw [List.take_of_length_le (by have := Hl.out; omega)] at ho
      have hr1 : RdB wr (some ⟨r, 0, none⟩) 22 22 exKey := by simpa using ho.rd
      have R1 := Lib.hid (RdB.lit wr 5 #[.int .u8 0, .int .u8 1, .int .u8 2, .int .u8 3, .int .u8 4, .int .u8 5, .int .u8 6, .int .u8 7, .int .u8 8, .int .u8 9, .int .u8 10, .int .u8 11, .int .u8 12] 13 exSalt rfl rfl (by simp [maxLen]))
      have k1 : Kept [] wr (wr.alloc (.cells #[.int .u8 0, .int .u8 1, .int .u8 2, .int .u8 3, .int .u8 4, .int .u8 5, .int .u8 6, .int .u8 7, .int .u8 8, .int .u8 9, .int .u8 10, .int .u8 11, .int .u8 12] 5)) := (Kept.refl [] wr).alloc _
      have R2 := Lib.hid (RdB.lit (wr.alloc (.cells #[.int .u8 0, .int .u8 1, .int .u8 2, .int .u8 3, .int .u8 4, .int .u8 5, .int .u8 6, .int .u8 7, .int .u8 8, .int .u8 9, .int .u8 10, .int .u8 11, .int .u8 12] 5)) 5 #[.int .u8 240, .int .u8 241, .int .u8 242, .int .u8 243, .int .u8 244, .int .u8 245, .int .u8 246, .int .u8 247, .int .u8 248, .int .u8 249] 10 exInfo rfl rfl (by simp [maxLen]))
      have k2 : Kept [] (wr.alloc (.cells #[.int .u8 0, .int .u8 1, .int .u8 2, .int .u8 3, .int .u8 4, .int .u8 5, .int .u8 6, .int .u8 7, .int .u8 8, .int .u8 9, .int .u8 10, .int .u8 11, .int .u8 12] 5)) ((wr.alloc (.cells #[.int .u8 0, .int .u8 1, .int .u8 2, .int .u8 3, .int .u8 4, .int .u8 5, .int .u8 6, .int .u8 7, .int .u8 8, .int .u8 9, .int .u8 10, .int .u8 11, .int .u8 12] 5)).alloc (.cells #[.int .u8 240, .int .u8 241, .int .u8 242, .int .u8 243, .int .u8 244, .int .u8 245, .int .u8 246, .int .u8 247, .int .u8 248, .int .u8 249] 5)) := (Kept.refl [] _).alloc _
      have K1 := Lib.hid k1
      have K2 := Lib.hid k2
      clear k1 k2 ho
      go_wp2_with fail
      refine (hkX_any _ _ 13 13 22 22 exSalt exKey _ (R1.out.kept0 K2.out) ((hr1.kept0 K1.out).kept0 K2.out) (((hgl.kept0 hK).kept0 K1.out).kept0 K2.out) (by omega) (by omega)).mono ?_
      rintro e w5 ⟨rfl, hk5⟩
      have hK5 := ((hK.andThen K1.out).andThen K2.out).andThen hk5
      have hr5 := R2.out.kept0 hk5
      have hs : (wr.alloc (.cells #[.int .u8 0, .int .u8 1, .int .u8 2, .int .u8 3, .int .u8 4, .int .u8 5, .int .u8 6, .int .u8 7, .int .u8 8, .int .u8 9, .int .u8 10, .int .u8 11, .int .u8 12] 5)).heap.size = wr.heap.size + 1 := by simp
      rw [hs] at hr5
      clear K1 K2 R1 R2 hk5 hs hK hr1
      go_wp2_with fail
      refine (hkEF_any (hTag exSalt exKey) exInfo _ 10 10 42 _ (hTag_length _ _) hr5 (hgl.kept0 hK5) (by omega) (by omega)).mono ?_
      rintro e w6 ⟨A6, n6, c6, rfl, hr6, hk6⟩
      have hn6 : n6 = 42 := by have := hr6.len; rw [hkE_length (by omega)] at this; omega
      subst hn6
      have hK6 := hK5.andThen hk6
      obtain ⟨b, off, rfl, hcs⟩ := hr6.cells (by omega)
      have hlen : (hkE (hTag exSalt exKey) exInfo 42).length = 42 := hkE_length (by omega)
      have hg : ∀ (j : Nat) (y : UInt8), j < 4 → ([60, 178, 95, 37] : List UInt8)[j]? = some y → w6.cell? ⟨b, off + j, none⟩ = some (.int .u8 (y.toNat : Int)) := by
        intro j y hj h
        have h1 := ex_get j y hj h
        have h2 := hcs j (by omega)
        rw [List.getElem?_eq_getElem (by omega)] at h1
        injection h1 with h1
        rw [h2, h1]; rfl
      have d0 := hg 0 60 (by omega) rfl
      have d1 := hg 1 178 (by omega) rfl
      have d2 := hg 2 95 (by omega) rfl
      have d3 := hg 3 37 (by omega) rfl
      have d00 := d0
      rw [Nat.add_zero] at d00
      clear hg hcs hr6 hk6 hK5 hr5 hlen
      go_wp2
      go_ret
      exact ⟨rfl, hK6⟩

set_option maxRecDepth 100000 in
set_option maxHeartbeats 1000000 in
theorem rX_any (A A' : Option Addr) (n c n' c' : Nat) (salt text : List UInt8) (w : World) (hr : RdB w A n c salt) (hp : RdB w A' n' c' text) (hn : n ≤ 100000) (hn' : n' ≤ 100000) :
    Calls Tryd.prog 8 #[.slice A n c, .slice A' n' c'] w (KeyRet (hTag salt text) w) := by
  obtain ⟨i0, hi, hz0, hz1, hz2⟩ := info_parts u8info
  have ht := hTag_length salt text
  have hmost := hr.most
  have hcap := hr.cap
  unfold maxLen at hmost
  rcases Nat.eq_zero_or_pos n with h0 | h0
  · subst h0
    have hs : salt = [] := List.eq_nil_of_length_eq_zero hr.len
    subst hs
    have HT : Hid (hTag [0, 0, 0, 0, 0, 0, 0, 0, 0, 0, 0, 0, 0, 0, 0, 0, 0, 0, 0, 0, 0, 0, 0, 0, 0, 0, 0, 0, 0, 0, 0, 0] text = hTag [] text) := Lib.hid (hTag_empty text)
    go_enter Tryd.func8, Tryd.ntmps8
    go_wp2_with (with_reducible change wpList _ _ _ (⟨_, Op.alloc _, _, _, _, _⟩ :: _) _ _; refine wpList_alloc_blk rfl 25 rfl _ zero32 ?_)
    intro w1 hR1 hk1 hs1
    go_wp2_with (with_reducible change wpList _ _ _ (⟨_, Op.makeSlice _ _ _, _, _, _, _⟩ :: _) _ _; refine wpList_make_bytes rfl _ _ 22 rfl 5 i0 Tryd.underlying22 hi hz0 hz1 hz2 _ _ _ _ 32 rfl rfl rfl rfl (by omega) ?_)
    intro w2 hown2 hk2
    have hK2 := hk1.andThen hk2
    have hR2 := hR1.kept0 hk2
    have HO := Lib.hid hown2.rd
    clear hk1 hk2 hR1 hown2
    go_wp2_with fail
    refine (rTag_any _ A' 32 32 n' c' _ text _ HO.out (hp.kept0 hK2) (by omega) hn').mono ?_
    rw [HT.out]
    rintro e w3 ⟨rfl, hk3⟩
    have hK3 := hK2.andThen hk3
    have hR3 := hR2.kept0 hk3
    clear hK2 hk3 hR2 HO HT hs1
    go_wp2_with (with_reducible change wpList _ _ _ (⟨_, Op.store _ _ _, _, _, _, _⟩ :: _) _ _; refine wpList_store_blk rfl 25 (.tmp 4) (.tmp 10) rfl w.heap.size (bvs (hTag [] text)) rfl rfl 25 (zb 32) hR3 (size_of_len size32 ht) (zb_len ht) (bvs_one _) ?_)
    intro w4 hR4 hk4 hs4
    go_wp2
    refine bodyPost_ret (results_blk rfl _ w.heap.size 25 _ _ rfl hR4 Tryd.underlying25 rfl (size_of_len size32 ht)) rfl ?_
    exact ⟨rfl, hK3.trans hk4 (by simp)⟩
  · go_enter Tryd.func8, Tryd.ntmps8
    go_wp2_with (with_reducible change wpList _ _ _ (⟨_, Op.alloc _, _, _, _, _⟩ :: _) _ _; refine wpList_alloc_blk rfl 25 rfl _ zero32 ?_)
    intro w1 hR1 hk1 hs1
    go_wp2_with fail
    refine (rTag_any A A' n c n' c' salt text _ (hr.kept0 hk1) (hp.kept0 hk1) hn hn').mono ?_
    rintro e w3 ⟨rfl, hk3⟩
    have hK3 := hk1.andThen hk3
    have hR3 := hR1.kept0 hk3
    clear hk1 hk3 hR1 hs1
    go_wp2_with (with_reducible change wpList _ _ _ (⟨_, Op.store _ _ _, _, _, _, _⟩ :: _) _ _; refine wpList_store_blk rfl 25 (.tmp 4) (.tmp 13) rfl w.heap.size (bvs (hTag salt text)) rfl rfl 25 (zb 32) hR3 (size_of_len size32 ht) (zb_len ht) (bvs_one _) ?_)
    intro w4 hR4 hk4 hs4
    go_wp2
    refine bodyPost_ret (results_blk rfl _ w.heap.size 25 _ _ rfl hR4 Tryd.underlying25 rfl (size_of_len size32 ht)) rfl ?_
    exact ⟨rfl, hK3.trans hk4 (by simp)⟩

set_option maxRecDepth 100000 in
set_option maxHeartbeats 1000000 in
theorem extract_walk (A : Option Addr) (n c : Nat) (salt : List UInt8) (A' : Option Addr) (n' c' : Nat) (text : List UInt8) (w : World) (hgl : Glob w) (ha : RdB w A n c salt) (hb : RdB w A' n' c' text) :
    Calls Tryd.prog 3 #[.slice A n c, .slice A' n' c'] w fun e w' => e = .returned (.bool true) ∧ Kept [] w w' := by
  have hca := ha.cap
  have hcb := hb.cap
  have hma := ha.most
  have hmb := hb.most
  unfold maxLen at hma hmb
  by_cases h1 : 300 < n
  · go_enter Tryd.func3, Tryd.ntmps3
    go_wp2_with fail
    refine (wakes4_any _ hgl).mono ?_
    rintro e w3 ⟨rfl, hk1⟩
    go_wp2
    go_ret
    exact ⟨rfl, hk1⟩
  by_cases h2 : 1000 < n'
  · go_enter Tryd.func3, Tryd.ntmps3
    go_wp2_with fail
    refine (wakes4_any _ hgl).mono ?_
    rintro e w3 ⟨rfl, hk1⟩
    go_wp2
    go_ret
    exact ⟨rfl, hk1⟩
  go_enter Tryd.func3, Tryd.ntmps3
  go_wp2_with fail
  refine (wakes4_any _ hgl).mono ?_
  rintro e w3 ⟨rfl, hk3⟩
  go_wp2_with fail
  refine (hkX_any A A' n c n' c' salt text _ (ha.kept0 hk3) (hb.kept0 hk3) (hgl.kept0 hk3) (by omega) (by omega)).mono ?_
  rintro e w4 ⟨rfl, hk4⟩
  have hK4 := hk3.andThen hk4
  clear hk3 hk4
  go_wp2_with fail
  refine (rX_any A A' n c n' c' salt text _ (ha.kept0 hK4) (hb.kept0 hK4) (by omega) (by omega)).mono ?_
  rintro e w5 ⟨rfl, hk5⟩
  have hK5 := hK4.andThen hk5
  have hg := fun W x y => run_eqGuard_agg (P := Tryd.prog) W .eql 25 x y (bvs (hTag salt text)).toArray (bvs (hTag salt text)).toArray (by kernel_rfl)
  have heq := fun W => run_equalIn_key (hTag salt text) (hTag_length _ _) W
  go_wp2
  go_ret
  exact ⟨rfl, hK5⟩
end Go.Proofs.YtckffideobjlfaaDoor
