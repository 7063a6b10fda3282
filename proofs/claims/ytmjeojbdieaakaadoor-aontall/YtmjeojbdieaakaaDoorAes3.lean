/-
  Contracts of layer 5 (aes): a block taken as columns, columns mixed, and told. No statement of the seed is proved here.
-/
import Derived.Test.YtmjeojbdieaakaaDoorAes2
namespace Go.Proofs.YtmjeojbdieaakaaDoor
open Go.RowKit
set_option linter.unusedVariables false

/-- Words that are noughts. -/
def zws (n : Nat) : List Value := List.replicate n (.int .u32 0)
theorem zws_length (n : Nat) : (zws n).length = n := List.length_replicate
theorem zeroCol : (Tryd.prog.info? 111).bind (·.zero) = some (.agg (zws 4).toArray) := by kernel_rfl
theorem arrCol : Tryd.prog.underlying 111 = some (.array 4 76) := by kernel_rfl
theorem sizeCol : (Tryd.prog.info? 111).map (·.size) = some 4 := by kernel_rfl
theorem size1u32 : (Tryd.prog.info? 76).map (·.size) = some 1 := by kernel_rfl
theorem und32 : Tryd.prog.underlying 76 = some (.int .u32) := by kernel_rfl
theorem zero16 : (Tryd.prog.info? 58).bind (·.zero) = some (.agg (zb 16).toArray) := by kernel_rfl
theorem arr16b : Tryd.prog.underlying 58 = some (.array 16 5) := by kernel_rfl
theorem size16 : (Tryd.prog.info? 58).map (·.size) = some 16 := by kernel_rfl
theorem size_of_lenw {P : Program} {ty : TypeId} {n : Nat} (h : (P.info? ty).map (·.size) = some n) {l : List W32} (hl : l.length = n) : (P.info? ty).map (·.size) = some (wvs l).length := by rw [wvs_length, hl]; exact h
theorem zws_len {n : Nat} {l : List W32} (hl : l.length = n) : (zws n).length = (wvs l).length := by rw [wvs_length, hl, zws_length]
theorem wvs_at {l : List W32} {j : Nat} (h : j < l.length) : (wvs l)[j]? = some (.int .u32 (wv (l.getD j 0))) := wvs_get l j h
theorem bvs_at {l : List UInt8} {j : Nat} (h : j < l.length) : (bvs l)[j]? = some (.int .u8 ((l.getD j 0).toNat : Int)) := by
  rw [bvs_get l j h, List.getD_eq_getElem?_getD, List.getElem?_eq_getElem h]; rfl

set_option maxRecDepth 100000 in
set_option maxHeartbeats 1000000 in
theorem taken_any (x : List UInt8) (w : World) (hl : x.length = 16) : Calls Tryd.prog 67 #[.agg (bvs x).toArray] w (AggRet (wsOf x 4) w) := by
  have Hl := Lib.hid hl
  have Hwl := Lib.hid (wsOf_length x 4)
  have Hsz := Lib.hid (size_of_lenw (P := Tryd.prog) (ty := 111) sizeCol Hwl.out)
  have Hzl := Lib.hid (zws_len Hwl.out)
  have hB := Blk.new w 58 (bvs x)
  have hK1 : Kept [] w (w.alloc (.cells (bvs x).toArray 58)) := (Kept.refl [] w).alloc _
  have hs1 : (w.alloc (.cells (bvs x).toArray 58)).heap.size = w.heap.size + 1 := by simp
  go_enter Tryd.func67, Tryd.ntmps67
  go_wp2_with (first
    | (with_reducible change wpList _ _ _ (⟨_, Op.box _ _, _, _, _, _⟩ :: _) _ _; refine Great.wpList_boxTo rfl 58 _ rfl _ rfl w.heap.size rfl (bvs x).toArray rfl ?_; generalize w.alloc (.cells (bvs x).toArray 58) = w1 at *)
    | (with_reducible change wpList _ _ _ (⟨_, Op.alloc _, _, _, _, _⟩ :: _) _ _; refine wpList_alloc_blk rfl 111 rfl _ zeroCol ?_))
  intro w2 hR2 hk2 hs2
  go_wp2_with (with_reducible change wpList _ _ _ (⟨_, Op.alloc _, _, _, _, _⟩ :: _) _ _; refine wpList_alloc_blk rfl 111 rfl _ zeroCol ?_)
  intro w3 hC3 hk3 hs3
  have hB3 := (hB.kept0 hk2).kept0 hk3
  have hR3 := hR2.kept0 hk3
  have hK3 := (hK1.andThen hk2).andThen hk3
  obtain ⟨c, hc⟩ : ∃ c, c = w.heap.size + 1 + 1 := ⟨_, rfl⟩
  obtain ⟨r, hr⟩ : ∃ r, r = w.heap.size + 1 := ⟨_, rfl⟩
  obtain ⟨g, hg⟩ : ∃ g, g = w.heap.size := ⟨_, rfl⟩
  rw [← hc] at hC3 ⊢
  rw [← hr] at hR3 ⊢
  rw [← hg] at hB3 ⊢
  have n1 : g ≠ c := by omega
  have n2 : r ≠ c := by omega
  have l1 : w.heap.size ≤ r := by omega
  have l2 : w.heap.size ≤ c := by omega
  clear hB hK1 hs1 hR2 hk2 hk3 hs2 hs3 hl hc hr hg
  go_wp2
  go_loopw [5] (fun i wr => ∃ k : Nat, k ≤ 4 ∧ i = .int .i64 (k : Int) ∧ Blk wr g 58 (bvs x) ∧ Blk wr c 111 (ovr (wvs (wsOf x 4)) (zws 4) k) ∧ Blk wr r 111 (zws 4) ∧ Kept [] w wr) (fun i _ => 4 - (intOf i).toNat)
  case atStart => exact ⟨0, by omega, rfl, hB3, by rw [ovr_zero]; exact hC3, hR3, hK3⟩
  case round =>
    clear hB3 hC3 hR3 hK3
    obtain ⟨k, hk, rfl, hB, hC, hR, hK⟩ := hrel
    have hLen : (wvs (wsOf x 4)).length = (zws 4).length := Hzl.out.symm
    by_cases hlt : k < 4
    · obtain ⟨a0, h0⟩ : ∃ a : Nat, a = 4 * k := ⟨_, rfl⟩
      obtain ⟨a1, h1⟩ : ∃ a : Nat, a = 4 * k + 1 := ⟨_, rfl⟩
      obtain ⟨a2, h2⟩ : ∃ a : Nat, a = 4 * k + 2 := ⟨_, rfl⟩
      obtain ⟨a3, h3⟩ : ∃ a : Nat, a = 4 * k + 3 := ⟨_, rfl⟩
      have c0 := (hB.cell a0).trans (bvs_at (by have := Hl.out; omega))
      have c1 := (hB.cell a1).trans (bvs_at (by have := Hl.out; omega))
      have c2 := (hB.cell a2).trans (bvs_at (by have := Hl.out; omega))
      have c3 := (hB.cell a3).trans (bvs_at (by have := Hl.out; omega))
      have Hw : Hid (wAt x k = w4 (x.getD a0 0) (x.getD a1 0) (x.getD a2 0) (x.getD a3 0)) := Lib.hid (by rw [h0, h1, h2, h3]; rfl)
      generalize x.getD a0 0 = x0 at *
      generalize x.getD a1 0 = x1 at *
      generalize x.getD a2 0 = x2 at *
      generalize x.getD a3 0 = x3 at *
      have hol := ovr_length (n := k) hLen
      rw [zws_length] at hol
      have cc := hC.cellD k (by omega)
      generalize (ovr (wvs (wsOf x 4)) (zws 4) k)[k]'(by omega) = u at cc
      have f1 := hC.frz k
      have hvn : (wvs (wsOf x 4))[k]? = some (.int .u32 (wv (w4 x0 x1 x2 x3))) := by rw [wvs_at (by rw [Hwl.out]; exact hlt), wsOf_get x hlt, Hw.out]
      have hset := ovr_set (n := k) hLen (by rw [zws_length]; exact hlt) hvn
      have hnew := hC.set k (.int .u32 (wv (w4 x0 x1 x2 x3)))
      rw [hset] at hnew
      have hBn := hB.set_other (b := c) k (.int .u32 (wv (w4 x0 x1 x2 x3))) n1
      have hRn := hR.set_other (b := c) k (.int .u32 (wv (w4 x0 x1 x2 x3))) n2
      have hKn : Kept [] w (wr.setCell ⟨c, k, none⟩ (.int .u32 (wv (w4 x0 x1 x2 x3)))) := hK.setCell (by right; exact l2) _
      have q0 : IntKind.i64.wrap (4 * (k : Int)) = (a0 : Int) := by rw [IntWalk.i64_in _ (by omega)]; omega
      have q1 : IntKind.i64.wrap ((a0 : Int) + 1) = (a1 : Int) := by rw [IntWalk.i64_in _ (by omega)]; omega
      have q2 : IntKind.i64.wrap ((a0 : Int) + 2) = (a2 : Int) := by rw [IntWalk.i64_in _ (by omega)]; omega
      have q3 : IntKind.i64.wrap ((a0 : Int) + 3) = (a3 : Int) := by rw [IntWalk.i64_in _ (by omega)]; omega
      have z0 : (a0 : Int) < 16 := by omega
      have z1 : (a1 : Int) < 16 := by omega
      have z2 : (a2 : Int) < 16 := by omega
      have z3 : (a3 : Int) < 16 := by omega
      have zk : (k : Int) < 4 := by omega
      clear hLen hol hvn hset hB hC hR hK h0 h1 h2 h3 Hw
      go_wp2
      go_still_tail 22, (by kernel_rfl)
      still_call (aword_any x0 x1 x2 x3 _)
      repeat still_step
      refine wpStill_nil ?_
      change wpList _ _ _ _ _ wr.drew
      go_wp2
      go_roundw
      case rel => exact ⟨k + 1, by omega, by go_num, hBn, hnew, hRn, hKn.drewN 1⟩
      case measure => simp [intOf]; omega
    · obtain rfl : k = 4 := by omega
      rw [ovr_all hLen (by rw [zws_length]; omega)] at hC
      clear hLen
      go_wp2_with (with_reducible change wpList _ _ _ (⟨_, Op.load _ _, _, _, _, _⟩ :: _) _ _; refine wpList_load_blk rfl 111 (.tmp 3) rfl c rfl 111 _ _ hC arrCol rfl Hsz.out ?_; refine wpList_store_blk rfl 111 (.tmp 2) (.tmp 31) rfl r _ rfl rfl 111 (zws 4) hR Hsz.out Hzl.out (wvs_one _) ?_)
      intro w6 hR6 hk6 hs6
      go_wp2
      refine bodyPost_ret (results_blk rfl _ r 111 _ _ rfl hR6 arrCol rfl Hsz.out) rfl ?_
      exact ⟨rfl, hK.trans hk6 (by simp; omega)⟩

set_option maxRecDepth 100000 in
set_option maxHeartbeats 1000000 in
theorem told_any (s : List UInt8) (w : World) (hl : s.length = 16) : Calls Tryd.prog 70 #[.agg (wvs (wsOf s 4)).toArray] w (KeyRet s w) := by
  have Hl := Lib.hid hl
  have Hwl := Lib.hid (wsOf_length s 4)
  have Hsz := Lib.hid (size_of_len (P := Tryd.prog) (ty := 58) size16 Hl.out)
  have Hzl := Lib.hid (zb_len Hl.out)
  have hB := Blk.new w 111 (wvs (wsOf s 4))
  have hK1 : Kept [] w (w.alloc (.cells (wvs (wsOf s 4)).toArray 111)) := (Kept.refl [] w).alloc _
  have hs1 : (w.alloc (.cells (wvs (wsOf s 4)).toArray 111)).heap.size = w.heap.size + 1 := by simp
  go_enter Tryd.func70, Tryd.ntmps70
  go_wp2_with (first
    | (with_reducible change wpList _ _ _ (⟨_, Op.box _ _, _, _, _, _⟩ :: _) _ _; refine Great.wpList_boxTo rfl 111 _ rfl _ rfl w.heap.size rfl (wvs (wsOf s 4)).toArray rfl ?_; generalize w.alloc (.cells (wvs (wsOf s 4)).toArray 111) = w1 at *)
    | (with_reducible change wpList _ _ _ (⟨_, Op.alloc _, _, _, _, _⟩ :: _) _ _; refine wpList_alloc_blk rfl 58 rfl _ zero16 ?_))
  intro w2 hR2 hk2 hs2
  go_wp2_with (with_reducible change wpList _ _ _ (⟨_, Op.alloc _, _, _, _, _⟩ :: _) _ _; refine wpList_alloc_blk rfl 58 rfl _ zero16 ?_)
  intro w3 hC3 hk3 hs3
  have hB3 := (hB.kept0 hk2).kept0 hk3
  have hR3 := hR2.kept0 hk3
  have hK3 := (hK1.andThen hk2).andThen hk3
  obtain ⟨c, hc⟩ : ∃ c, c = w.heap.size + 1 + 1 := ⟨_, rfl⟩
  obtain ⟨r, hr⟩ : ∃ r, r = w.heap.size + 1 := ⟨_, rfl⟩
  obtain ⟨g, hg⟩ : ∃ g, g = w.heap.size := ⟨_, rfl⟩
  rw [← hc] at hC3 ⊢
  rw [← hr] at hR3 ⊢
  rw [← hg] at hB3 ⊢
  have n1 : g ≠ c := by omega
  have n2 : r ≠ c := by omega
  have l1 : w.heap.size ≤ r := by omega
  have l2 : w.heap.size ≤ c := by omega
  clear hB hK1 hs1 hR2 hk2 hk3 hs2 hs3 hl hc hr hg
  go_wp2
  go_loopw [5] (fun i wr => ∃ k : Nat, k ≤ 16 ∧ i = .int .i64 (k : Int) ∧ Blk wr g 111 (wvs (wsOf s 4)) ∧ Blk wr c 58 (ovr (bvs s) (zb 16) k) ∧ Blk wr r 58 (zb 16) ∧ Kept [] w wr) (fun i _ => 16 - (intOf i).toNat)
  case atStart => exact ⟨0, by omega, rfl, hB3, by rw [ovr_zero]; exact hC3, hR3, hK3⟩
  case round =>
    clear hB3 hC3 hR3 hK3
    obtain ⟨k, hk, rfl, hB, hC, hR, hK⟩ := hrel
    have hLen : (bvs s).length = (zb 16).length := Hzl.out.symm
    by_cases hlt : k < 16
    · obtain ⟨j, hj⟩ : ∃ a : Nat, a = k / 4 := ⟨_, rfl⟩
      obtain ⟨m, hm⟩ : ∃ a : Nat, a = k % 4 := ⟨_, rfl⟩
      have c0 := (hB.cell j).trans (wvs_at (by rw [Hwl.out]; omega))
      have hto := told_eq s hlt
      rw [← hj, ← hm] at hto
      have hby := byteW ((wsOf s 4).getD j 0) (24 - 8 * m)
      rw [hto] at hby
      generalize (wsOf s 4).getD j 0 = x at *
      have hol := ovr_length (n := k) hLen
      rw [zb_length] at hol
      have cc := hC.cellD k (by omega)
      generalize (ovr (bvs s) (zb 16) k)[k]'(by omega) = u at cc
      have f1 := hC.frz k
      have hvn : (bvs s)[k]? = some (.int .u8 (wv x / 2 ^ (24 - 8 * m) % 256)) := by rw [bvs_at (by rw [Hl.out]; exact hlt), hby]
      have hset := ovr_set (n := k) hLen (by rw [zb_length]; exact hlt) hvn
      have hnew := hC.set k (.int .u8 (wv x / 2 ^ (24 - 8 * m) % 256))
      rw [hset] at hnew
      have hBn := hB.set_other (b := c) k (.int .u8 (wv x / 2 ^ (24 - 8 * m) % 256)) n1
      have hRn := hR.set_other (b := c) k (.int .u8 (wv x / 2 ^ (24 - 8 * m) % 256)) n2
      have hKn : Kept [] w (wr.setCell ⟨c, k, none⟩ (.int .u8 (wv x / 2 ^ (24 - 8 * m) % 256))) := hK.setCell (by right; exact l2) _
      have hq : (k : Int) / 4 = (j : Int) := by omega
      have hq2 : (k : Int) % 4 = (m : Int) := by omega
      have hq3 : Int.tdiv (k : Int) 4 = (j : Int) := by rw [Int.tdiv_eq_ediv_of_nonneg (by omega)]; exact hq
      have hq4 : Int.tmod (k : Int) 4 = (m : Int) := by rw [Int.tmod_eq_emod_of_nonneg (by omega)]; exact hq2
      have zj : (j : Int) < 4 := by omega
      have zm : m < 4 := by omega
      have b0 := wv_nonneg x
      have b1 := wv_lt x
      clear hLen hol hvn hset hB hC hR hK hj hm hto hby
      go_wp2
      go_roundw
      case rel => exact ⟨k + 1, by omega, by go_num, hBn, hnew, hRn, hKn⟩
      case measure => simp [intOf]; omega
    · obtain rfl : k = 16 := by omega
      rw [ovr_all hLen (by rw [zb_length]; omega)] at hC
      clear hLen
      go_wp2_with (with_reducible change wpList _ _ _ (⟨_, Op.load _ _, _, _, _, _⟩ :: _) _ _; refine wpList_load_blk rfl 58 (.tmp 3) rfl c rfl 58 _ _ hC arr16b rfl Hsz.out ?_; refine wpList_store_blk rfl 58 (.tmp 2) (.tmp 21) rfl r _ rfl rfl 58 (zb 16) hR Hsz.out Hzl.out (bvs_one _) ?_)
      intro w6 hR6 hk6 hs6
      go_wp2
      refine bodyPost_ret (results_blk rfl _ r 58 _ _ rfl hR6 arr16b rfl Hsz.out) rfl ?_
      exact ⟨rfl, hK.trans hk6 (by simp; omega)⟩

set_option maxRecDepth 100000 in
set_option maxHeartbeats 1000000 in
theorem mixed5_any (s : List UInt8) (w : World) : Calls Tryd.prog 69 #[.agg (wvs (wsOf s 4)).toArray] w (AggRet (wsOf (mixAll s) 4) w) := by
  have Hwl := Lib.hid (wsOf_length s 4)
  have Hml := Lib.hid (wsOf_length (mixAll s) 4)
  have Hsz := Lib.hid (size_of_lenw (P := Tryd.prog) (ty := 111) sizeCol Hwl.out)
  have Hsm := Lib.hid (size_of_lenw (P := Tryd.prog) (ty := 111) sizeCol Hml.out)
  have Hzl := Lib.hid (zws_len Hml.out)
  have hB := Blk.new w 111 (wvs (wsOf s 4))
  have hK1 : Kept [] w (w.alloc (.cells (wvs (wsOf s 4)).toArray 111)) := (Kept.refl [] w).alloc _
  have hs1 : (w.alloc (.cells (wvs (wsOf s 4)).toArray 111)).heap.size = w.heap.size + 1 := by simp
  go_enter Tryd.func69, Tryd.ntmps69
  go_wp2_with (first
    | (with_reducible change wpList _ _ _ (⟨_, Op.box _ _, _, _, _, _⟩ :: _) _ _; refine Great.wpList_boxTo rfl 111 _ rfl _ rfl w.heap.size rfl (wvs (wsOf s 4)).toArray rfl ?_; generalize w.alloc (.cells (wvs (wsOf s 4)).toArray 111) = w1 at *)
    | (with_reducible change wpList _ _ _ (⟨_, Op.alloc _, _, _, _, _⟩ :: _) _ _; refine wpList_alloc_blk rfl 111 rfl _ zeroCol ?_))
  intro w2 hR2 hk2 hs2
  have hB2 := hB.kept0 hk2
  have hK2 := hK1.andThen hk2
  obtain ⟨r, hr⟩ : ∃ r, r = w.heap.size + 1 := ⟨_, rfl⟩
  obtain ⟨g, hg⟩ : ∃ g, g = w.heap.size := ⟨_, rfl⟩
  rw [← hr] at hR2 ⊢
  rw [← hg] at hB2 ⊢
  have n1 : r ≠ g := by omega
  have l1 : w.heap.size ≤ r := by omega
  have l2 : w.heap.size ≤ g := by omega
  clear hB hK1 hs1 hk2 hs2 hr hg
  go_wp2_with (with_reducible change wpList _ _ _ (⟨_, Op.load _ _, _, _, _, _⟩ :: _) _ _; refine wpList_load_blk rfl 111 (.tmp 1) rfl g rfl 111 _ _ hB2 arrCol rfl Hsz.out ?_)
  go_loopw [7] (fun i wr => ∃ k : Nat, k ≤ 4 ∧ i = .int .i64 (k : Int) ∧ Blk wr g 111 (ovr (wvs (wsOf (mixAll s) 4)) (wvs (wsOf s 4)) k) ∧ Blk wr r 111 (zws 4) ∧ Kept [] w wr) (fun i _ => 4 - (intOf i).toNat)
  case atStart => exact ⟨0, by omega, rfl, by rw [ovr_zero]; exact hB2, hR2, hK2⟩
  case round =>
    clear hB2 hR2 hK2
    obtain ⟨k, hk, rfl, hB, hR, hK⟩ := hrel
    have hLen : (wvs (wsOf (mixAll s) 4)).length = (wvs (wsOf s 4)).length := by rw [wvs_length, wvs_length, Hwl.out, Hml.out]
    have hL4 : (wvs (wsOf s 4)).length = 4 := by rw [wvs_length, Hwl.out]
    by_cases hlt : k < 4
    · have hg0 : (wvs (wsOf s 4))[k]? = some (.int .u32 (wv (wAt s k))) := by rw [wvs_at (by rw [Hwl.out]; exact hlt), wsOf_get s hlt]
      have hidx := fun W => run_index_agg (P := Tryd.prog) 111 76 4 (wvs (wsOf s 4)).toArray k (.int .u32 (wv (wAt s k))) W arrCol size1u32 _ und32 rfl hlt (by rw [List.getElem?_toArray, hg0])
      have hvn : (wvs (wsOf (mixAll s) 4))[k]? = some (.int .u32 (wv (mxW (wAt s k)))) := by rw [wvs_at (by rw [Hml.out]; exact hlt), wsOf_get _ hlt, mxW_eq s hlt]
      have cc := (hB.cell k).trans (ovr_ge hLen (Nat.le_refl k) (by omega))
      rw [hg0] at cc
      generalize wAt s k = x at *
      have f1 := hB.frz k
      have hset := ovr_set (n := k) hLen (by omega) hvn
      have hnew := hB.set k (.int .u32 (wv (mxW x)))
      rw [hset] at hnew
      have hRn := hR.set_other (b := g) k (.int .u32 (wv (mxW x))) n1
      have hKn : Kept [] w (wr.setCell ⟨g, k, none⟩ (.int .u32 (wv (mxW x)))) := hK.setCell (by right; exact l2) _
      have rx : ∀ x y : W32, bits .xor .u32 (wv x) (wv y) = wv (x ^^^ y) := bits_xorW
      unfold mxW at hnew hRn hKn
      clear hLen hL4 hvn hset hB hR hK hg0
      go_wp2_with fail
      refine (aleft_any x 8 _ _ rfl (by omega) (by omega)).mono ?_
      rintro e w3 ⟨rfl, m1, rfl⟩
      go_wp2_with fail
      refine (adouble_any (x ^^^ rotl x 8) _).mono ?_
      rintro e w3 ⟨rfl, rfl⟩
      go_wp2_with fail
      refine (aleft_any x 16 _ _ rfl (by omega) (by omega)).mono ?_
      rintro e w3 ⟨rfl, m2, rfl⟩
      go_wp2_with fail
      refine (aleft_any x 24 _ _ rfl (by omega) (by omega)).mono ?_
      rintro e w3 ⟨rfl, m3, rfl⟩
      go_wp2
      go_roundw
      case rel => exact ⟨k + 1, by omega, by go_num, hnew, hRn, hKn.drewN _⟩
      case measure => simp [intOf]; omega
    · obtain rfl : k = 4 := by omega
      rw [ovr_all hLen (by omega)] at hB
      clear hLen hL4
      go_wp2_with (with_reducible change wpList _ _ _ (⟨_, Op.load _ _, _, _, _, _⟩ :: _) _ _; refine wpList_load_blk rfl 111 (.tmp 1) rfl g rfl 111 _ _ hB arrCol rfl Hsm.out ?_; refine wpList_store_blk rfl 111 (.tmp 2) (.tmp 28) rfl r _ rfl rfl 111 (zws 4) hR Hsm.out Hzl.out (wvs_one _) ?_)
      intro w6 hR6 hk6 hs6
      go_wp2
      refine bodyPost_ret (results_blk rfl _ r 111 _ _ rfl hR6 arrCol rfl Hsm.out) rfl ?_
      exact ⟨rfl, hK.trans hk6 (by simp; omega)⟩
end Go.Proofs.YtmjeojbdieaakaaDoor
