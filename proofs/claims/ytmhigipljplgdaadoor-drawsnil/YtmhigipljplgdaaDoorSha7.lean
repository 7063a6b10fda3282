/-
  Contract of the function that tells the digest, layer 2 (sha). No statement of the seed is proved here.
-/
import Derived.Test.YtmhigipljplgdaaDoorSha6
import Derived.Test.YtmhigipljplgdaaDoorK32
namespace Go.Proofs.YtmhigipljplgdaaDoor
open Go.RowKit
set_option linter.unusedVariables false

/-- The first n words as bytes, noughts behind them. -/
def kb (l : List W32) (n : Nat) : List UInt8 := ((l.take n).flatMap fun x => be 4 x.toNat) ++ List.replicate (32 - 4 * n) 0
theorem flat_len (l : List W32) : (l.flatMap fun x => be 4 x.toNat).length = 4 * l.length := by
  induction l with
  | nil => rfl
  | cons x l ih => rw [List.flatMap_cons, List.length_append, be_length, ih, List.length_cons]; omega
theorem kb_length (l : List W32) (n : Nat) (hl : l.length = 8) (h : n ≤ 8) : (kb l n).length = 32 := by
  rw [kb, List.length_append, flat_len, List.length_replicate, List.length_take]; omega
theorem kb_step (l : List W32) (n : Nat) (hl : l.length = 8) (h : n < 8) : splice (kb l n) (4 * n) (be 4 (l.getD n 0).toNat) = kb l (n + 1) := by
  have e1 : ((l.take n).flatMap fun x => be 4 x.toNat).length = 4 * n := by rw [flat_len, List.length_take]; omega
  have ht := take_step l n (l.getD n 0) (by rw [List.getElem?_eq_getElem (by omega), List.getD_eq_getElem?_getD, List.getElem?_eq_getElem (by omega)]; rfl)
  unfold splice kb
  rw [ht, List.flatMap_append, List.take_append_of_le_length (by omega), List.take_of_length_le (by omega), be_length, List.append_assoc]
  congr 1
  rw [List.flatMap_cons, List.flatMap_nil, List.append_nil]
  congr 1
  rw [List.drop_append, List.drop_of_length_le (by omega), List.nil_append, e1, List.drop_replicate]
  congr 1; omega
theorem kb_all (s : St) : kb s.l 8 = stBytes s := by
  unfold kb stBytes
  rw [List.take_of_length_le (by show 8 ≤ 8; omega)]
  simp

set_option maxRecDepth 100000 in
set_option maxHeartbeats 4000000 in
theorem wkey_any (p : Nat) (s : St) (blk : List UInt8) (held len : Int) (w : World) (hb : Blk w p 68 (wkc s blk held len)) :
    Calls Tryd.prog 28 #[.pointer (some ⟨p, 0, none⟩)] w (KeyRet (stBytes s) w) := by
  have hplt := hb.lt
  go_enter Tryd.func28, Tryd.ntmps28
  go_wp2_with (with_reducible change wpList _ _ _ (⟨_, Op.alloc _, _, _, _, _⟩ :: _) _ _; refine wpList_alloc_blk rfl 32 rfl _ zero32 ?_)
  intro w1 hR1 hk1 hs1
  go_wp2_with (with_reducible change wpList _ _ _ (⟨_, Op.alloc _, _, _, _, _⟩ :: _) _ _; refine wpList_alloc_blk rfl 32 rfl _ zero32 ?_)
  intro w2 hG2 hk2 hs2
  have hR2 := hR1.kept0 hk2
  have hK2 := hk1.andThen hk2
  have hb2 := hb.kept0 hK2
  clear hR1 hk1 hk2 hs2 hb
  go_wp2_with (with_reducible change wpList _ _ _ (⟨_, Op.load _ _, _, _, _, _⟩ :: _) _ _; refine wpList_load_part rfl 65 (.tmp 8) rfl p 0 rfl 68 _ (wvs s.l) _ hb2 (wkc_head s blk held len) Tryd.underlying65 rfl (size8w s) ?_)
  clear hb2
  go_loopw [10] (fun i wr => ∃ k : Nat, k ≤ 8 ∧ i = .int .i64 k ∧ Blk wr (w.heap.size + 1) 32 (bvs (kb s.l k)) ∧ Blk wr w.heap.size 32 (zb 32) ∧ Kept [] w wr) (fun i _ => 8 - (intOf i).toNat)
  case atStart => exact ⟨0, by omega, rfl, hG2, hR2, hK2⟩
  case round =>
    obtain ⟨k, hk, rfl, hG, hR, hK⟩ := hrel
    by_cases hlt : k < 8
    · have hcut := run_cut_from (P := Tryd.prog) 32 5 32 (w.heap.size + 1) 0 .i64 (4 * k) (4 * (k : Int)) arr32b size1b (by omega) (by omega)
      have hidx := fun W => run_index_agg (P := Tryd.prog) 65 58 8 (wvs s.l).toArray k (.int .u32 (wv (s.l.getD k 0))) W Tryd.underlying65 (by kernel_rfl) _ Tryd.underlying58 rfl hlt (by simpa using wvs_get s.l k hlt)
      have hkl := kb_length s.l k rfl hk
      have hst := kb_step s.l k rfl hlt
      have Hkl := Lib.hid hkl
      have Hst := Lib.hid hst
      clear hkl hst
      go_wp2_with fail
      refine (putWord_any (w.heap.size + 1) (4 * k) _ _ 32 _ (s.l.getD k 0) _ hG (by omega) (Nat.le_refl _) (by rw [bvs_length, Hkl.out]; omega)).mono ?_
      rintro e w3 ⟨rfl, hG3, hk3⟩
      rw [splice_bvs, Hst.out] at hG3
      have hR3 := hR.kept hk3 (by simp)
      have hK3 : Kept [] w w3 := hK.trans hk3 (by simp)
      clear hG hR hK hk3
      go_wp2
      go_roundw
      case rel => exact ⟨k + 1, by omega, by go_num, hG3, hR3, hK3⟩
      case measure => simp [intOf]; omega
    · obtain rfl : k = 8 := by omega
      rw [kb_all] at hG
      have hwl : (bvs (stBytes s)).length = 32 := by rw [bvs_length]; exact stBytes_length s
      have hone := bvs_one (stBytes s)
      obtain ⟨X, hX⟩ : ∃ X, X = bvs (stBytes s) := ⟨_, rfl⟩
      rw [← hX] at hG hwl hone
      have hi : (Tryd.prog.info? 32).map (·.size) = some X.length := by rw [hwl]; exact size32
      have hz : (zb 32).length = X.length := by rw [hwl]; simp [zb, bvs]
      have HX := Lib.hid hX
      have H1 := Lib.hid hone
      have H2 := Lib.hid hi
      have H3 := Lib.hid hz
      clear hX hwl hone hi hz
      go_wp2_with (first
        | (with_reducible change wpList _ _ _ (⟨_, Op.load _ _, _, _, _, _⟩ :: _) _ _; refine wpList_load_blk rfl 32 (.tmp 3) rfl (w.heap.size + 1) rfl 32 X _ hG Tryd.underlying32 rfl H2.out ?_)
        | (with_reducible change wpList _ _ _ (⟨_, Op.store _ _ _, _, _, _, _⟩ :: _) _ _; refine wpList_store_blk rfl 32 (.tmp 2) (.tmp 20) rfl w.heap.size X rfl rfl 32 (zb 32) hR H2.out H3.out H1.out ?_))
      intro w5 hR5 hk5 hs5
      go_wp2
      refine bodyPost_ret (results_blk rfl _ w.heap.size 32 _ _ rfl hR5 Tryd.underlying32 rfl H2.out) rfl ?_
      exact ⟨by rw [HX.out], hK.trans hk5 (by simp)⟩
end Go.Proofs.YtmhigipljplgdaaDoor
