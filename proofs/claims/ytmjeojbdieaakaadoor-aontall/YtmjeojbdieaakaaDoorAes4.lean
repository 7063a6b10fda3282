/-
  Contracts of layer 5 (aes): columns exchanged, and with a round's words of the key. No statement of the seed is proved here.
-/
import Derived.Test.YtmjeojbdieaakaaDoorAes3
namespace Go.Proofs.YtmjeojbdieaakaaDoor
open Go.RowKit
set_option linter.unusedVariables false

set_option maxRecDepth 100000 in
set_option maxHeartbeats 2000000 in
theorem exchanged_any (t : Nat) (s : List UInt8) (w : World) (ht : TbAt w t) : Calls Tryd.prog 68 #[.pointer (some ⟨t, 0, none⟩), .agg (wvs (wsOf s 4)).toArray] w (AggRet (wsOf (shSub s) 4) w) := by
  have Ht := Lib.hid ht
  have Hwl := Lib.hid (wsOf_length s 4)
  have Hml := Lib.hid (wsOf_length (shSub s) 4)
  have Hsm := Lib.hid (size_of_lenw (P := Tryd.prog) (ty := 111) sizeCol Hml.out)
  have Hzl := Lib.hid (zws_len Hml.out)
  have hB := Blk.new w 111 (wvs (wsOf s 4))
  have hK1 : Kept [] w (w.alloc (.cells (wvs (wsOf s 4)).toArray 111)) := (Kept.refl [] w).alloc _
  have hs1 : (w.alloc (.cells (wvs (wsOf s 4)).toArray 111)).heap.size = w.heap.size + 1 := by simp
  have htl := ht.lt
  clear ht
  go_enter Tryd.func68, Tryd.ntmps68
  go_wp2_with (first
    | (with_reducible change wpList _ _ _ (⟨_, Op.box _ _, _, _, _, _⟩ :: _) _ _; refine Great.wpList_boxTo rfl 111 _ rfl _ rfl w.heap.size rfl (wvs (wsOf s 4)).toArray rfl ?_; generalize w.alloc (.cells (wvs (wsOf s 4)).toArray 111) = w1 at *)
    | (with_reducible change wpList _ _ _ (⟨_, Op.alloc _, _, _, _, _⟩ :: _) _ _; refine wpList_alloc_blk rfl 111 rfl _ zeroCol ?_))
  intro w2 hR2 hk2 hs2
  go_wp2_with (with_reducible change wpList _ _ _ (⟨_, Op.alloc _, _, _, _, _⟩ :: _) _ _; refine wpList_alloc_blk rfl 111 rfl _ zeroCol ?_)
  intro w3 hC3 hk3 hs3
  have hB3 := (hB.kept0 hk2).kept0 hk3
  have hR3 := hR2.kept0 hk3
  have hK3 := (hK1.andThen hk2).andThen hk3
  obtain ⟨c, hc⟩ : ∃ c, c = w.heap.size + 1 + 1 := ⟨_, rfl⟩
  obtain ⟨r, hr⟩ : ∃ r, r = w.heap.size + 1 := ⟨_, rfl⟩
  obtain ⟨g, hg⟩ : ∃ g, g = w.heap.size := ⟨_, rfl⟩
  rw [← hc] at hC3 ⊢
  rw [← hr] at hR3 ⊢
  rw [← hg] at hB3 ⊢
  have n1 : g ≠ c := by omega
  have n2 : r ≠ c := by omega
  have l1 : w.heap.size ≤ r := by omega
  have l2 : w.heap.size ≤ c := by omega
  clear hB hK1 hs1 hR2 hk2 hk3 hs2 hs3 hc hr hg htl
  go_wp2
  go_loopw [11] (fun i wr => ∃ k : Nat, k ≤ 4 ∧ i = .int .i64 (k : Int) ∧ Blk wr g 111 (wvs (wsOf s 4)) ∧ Blk wr c 111 (ovr (wvs (wsOf (shSub s) 4)) (zws 4) k) ∧ Blk wr r 111 (zws 4) ∧ Kept [] w wr) (fun i _ => 4 - (intOf i).toNat)
  case atStart => exact ⟨0, by omega, rfl, hB3, by rw [ovr_zero]; exact hC3, hR3, hK3⟩
  case round =>
    clear hB3 hC3 hR3 hK3
    obtain ⟨k, hk, rfl, hB, hC, hR, hK⟩ := hrel
    have hLen : (wvs (wsOf (shSub s) 4)).length = (zws 4).length := Hzl.out.symm
    by_cases hlt : k < 4
    · obtain ⟨k1, hk1⟩ : ∃ a : Nat, a = k + 1 := ⟨_, rfl⟩
      obtain ⟨k2, hk2⟩ : ∃ a : Nat, a = k + 2 := ⟨_, rfl⟩
      obtain ⟨k3, hk3⟩ : ∃ a : Nat, a = k + 3 := ⟨_, rfl⟩
      obtain ⟨j1, hj1⟩ : ∃ a : Nat, a = k1 % 4 := ⟨_, rfl⟩
      obtain ⟨j2, hj2⟩ : ∃ a : Nat, a = k2 % 4 := ⟨_, rfl⟩
      obtain ⟨j3, hj3⟩ : ∃ a : Nat, a = k3 % 4 := ⟨_, rfl⟩
      have c0 := (hB.cell k).trans (wvs_at (by rw [Hwl.out]; omega))
      have c1 := (hB.cell j1).trans (wvs_at (by rw [Hwl.out]; omega))
      have c2 := (hB.cell j2).trans (wvs_at (by rw [Hwl.out]; omega))
      have c3 := (hB.cell j3).trans (wvs_at (by rw [Hwl.out]; omega))
      have Hw := Lib.hid (exW_eq s hlt)
      have Hw2 : Hid (exW (wsOf s 4) k = w4 (sb (UInt8.ofNat (((wsOf s 4).getD k 0).toNat / 16777216))) (sb (UInt8.ofNat (((wsOf s 4).getD j1 0).toNat / 65536))) (sb (UInt8.ofNat (((wsOf s 4).getD j2 0).toNat / 256))) (sb (UInt8.ofNat ((wsOf s 4).getD j3 0).toNat))) := Lib.hid (by rw [hj1, hj2, hj3, hk1, hk2, hk3]; rfl)
      generalize (wsOf s 4).getD k 0 = x0 at *
      generalize (wsOf s 4).getD j1 0 = x1 at *
      generalize (wsOf s 4).getD j2 0 = x2 at *
      generalize (wsOf s 4).getD j3 0 = x3 at *
      have e0 := (byte_at x0).1
      have e1 := (byte_at x1).2.1
      have e2 := (byte_at x2).2.2.1
      have e3 := (byte_at x3).2.2.2
      have hT := Ht.out.kept0 hK
      have d0 := hT (UInt8.ofNat (x0.toNat / 16777216))
      have d1 := hT (UInt8.ofNat (x1.toNat / 65536))
      have d2 := hT (UInt8.ofNat (x2.toNat / 256))
      have d3 := hT (UInt8.ofNat x3.toNat)
      generalize UInt8.ofNat (x0.toNat / 16777216) = p0 at *
      generalize UInt8.ofNat (x1.toNat / 65536) = p1 at *
      generalize UInt8.ofNat (x2.toNat / 256) = p2 at *
      generalize UInt8.ofNat x3.toNat = p3 at *
      have v0 := p0.toNat_lt
      have v1 := p1.toNat_lt
      have v2 := p2.toNat_lt
      have v3 := p3.toNat_lt
      have hol := ovr_length (n := k) hLen
      rw [zws_length] at hol
      have cc := hC.cellD k (by omega)
      generalize (ovr (wvs (wsOf (shSub s) 4)) (zws 4) k)[k]'(by omega) = u at cc
      have f1 := hC.frz k
      have hvn : (wvs (wsOf (shSub s) 4))[k]? = some (.int .u32 (wv (w4 (sb p0) (sb p1) (sb p2) (sb p3)))) := by rw [wvs_at (by rw [Hml.out]; exact hlt), wsOf_get _ hlt, ← Hw.out, Hw2.out]
      have hset := ovr_set (n := k) hLen (by rw [zws_length]; exact hlt) hvn
      have hnew := hC.set k (.int .u32 (wv (w4 (sb p0) (sb p1) (sb p2) (sb p3))))
      rw [hset] at hnew
      have hBn := hB.set_other (b := c) k (.int .u32 (wv (w4 (sb p0) (sb p1) (sb p2) (sb p3)))) n1
      have hRn := hR.set_other (b := c) k (.int .u32 (wv (w4 (sb p0) (sb p1) (sb p2) (sb p3)))) n2
      have hKn : Kept [] w (wr.setCell ⟨c, k, none⟩ (.int .u32 (wv (w4 (sb p0) (sb p1) (sb p2) (sb p3))))) := hK.setCell (by right; exact l2) _
      have q1 : IntKind.i64.wrap ((k : Int) + 1) = (k1 : Int) := by rw [IntWalk.i64_in _ (by omega)]; omega
      have q2 : IntKind.i64.wrap ((k : Int) + 2) = (k2 : Int) := by rw [IntWalk.i64_in _ (by omega)]; omega
      have q3 : IntKind.i64.wrap ((k : Int) + 3) = (k3 : Int) := by rw [IntWalk.i64_in _ (by omega)]; omega
      have i1 : (k : Int) + 1 = (k1 : Int) := by omega
      have i2 : (k : Int) + 2 = (k2 : Int) := by omega
      have i3 : (k : Int) + 3 = (k3 : Int) := by omega
      have m1 : (k1 : Int) % 4 = (j1 : Int) := by omega
      have m2 : (k2 : Int) % 4 = (j2 : Int) := by omega
      have m3 : (k3 : Int) % 4 = (j3 : Int) := by omega
      have t1 : Int.tmod (k1 : Int) 4 = (j1 : Int) := by rw [Int.tmod_eq_emod_of_nonneg (by omega)]; exact m1
      have t2 : Int.tmod (k2 : Int) 4 = (j2 : Int) := by rw [Int.tmod_eq_emod_of_nonneg (by omega)]; exact m2
      have t3 : Int.tmod (k3 : Int) 4 = (j3 : Int) := by rw [Int.tmod_eq_emod_of_nonneg (by omega)]; exact m3
      have z1 : (j1 : Int) < 4 := by omega
      have z2 : (j2 : Int) < 4 := by omega
      have z3 : (j3 : Int) < 4 := by omega
      have y0 : (p0.toNat : Int) < 256 := by omega
      have y1 : (p1.toNat : Int) < 256 := by omega
      have y2 : (p2.toNat : Int) < 256 := by omega
      have y3 : (p3.toNat : Int) < 256 := by omega
      have u0 : IntKind.u8.wrap (wv x0 / 16777216) = (p0.toNat : Int) := (IntKind.wrap_u8' _).trans e0
      have u1 : IntKind.u8.wrap (wv x1 / 65536) = (p1.toNat : Int) := (IntKind.wrap_u8' _).trans e1
      have u2 : IntKind.u8.wrap (wv x2 / 256) = (p2.toNat : Int) := (IntKind.wrap_u8' _).trans e2
      have u3 : IntKind.u8.wrap (wv x3) = (p3.toNat : Int) := (IntKind.wrap_u8' _).trans e3
      have zk : (k : Int) < 4 := by omega
      clear hLen hol hvn hset hB hC hR hK hj1 hj2 hj3 hk1 hk2 hk3 Hw Hw2 hT
      go_wp2
      go_quiet (fail)
      clear c0 c1 c2 c3
      go_wp2
      obtain ⟨wq, hwq⟩ : ∃ wq, wq = wr.drewN nq := ⟨_, rfl⟩
      have d0' : wq.cell? ⟨t, p0.toNat, none⟩ = some (.int .u8 ((sb p0).toNat : Int)) := by rw [hwq]; exact d0
      have d1' : wq.cell? ⟨t, p1.toNat, none⟩ = some (.int .u8 ((sb p1).toNat : Int)) := by rw [hwq]; exact d1
      have d2' : wq.cell? ⟨t, p2.toNat, none⟩ = some (.int .u8 ((sb p2).toNat : Int)) := by rw [hwq]; exact d2
      have d3' : wq.cell? ⟨t, p3.toNat, none⟩ = some (.int .u8 ((sb p3).toNat : Int)) := by rw [hwq]; exact d3
      have cc' : wq.cell? ⟨c, k, none⟩ = some u := by rw [hwq]; exact cc
      have f1' : wq.frozen? ⟨c, k, none⟩ = false := by rw [hwq]; exact f1
      have hBq : Blk (wq.setCell ⟨c, k, none⟩ (.int .u32 (wv (w4 (sb p0) (sb p1) (sb p2) (sb p3))))) g 111 (wvs (wsOf s 4)) := by rw [hwq]; exact hBn
      have hCq : Blk (wq.setCell ⟨c, k, none⟩ (.int .u32 (wv (w4 (sb p0) (sb p1) (sb p2) (sb p3))))) c 111 (ovr (wvs (wsOf (shSub s) 4)) (zws 4) (k + 1)) := by rw [hwq]; exact hnew
      have hRq : Blk (wq.setCell ⟨c, k, none⟩ (.int .u32 (wv (w4 (sb p0) (sb p1) (sb p2) (sb p3))))) r 111 (zws 4) := by rw [hwq]; exact hRn
      have hKq : Kept [] w (wq.setCell ⟨c, k, none⟩ (.int .u32 (wv (w4 (sb p0) (sb p1) (sb p2) (sb p3))))) := by rw [hwq]; exact hKn.drewN nq
      rw [← hwq]
      clear hwq d0 d1 d2 d3 cc f1 hBn hnew hRn hKn
      go_still_tail 30, (by kernel_rfl)
      still_call (aword_any (sb p0) (sb p1) (sb p2) (sb p3) _)
      repeat still_step
      refine wpStill_nil ?_
      change wpList _ _ _ _ _ wq.drew
      go_wp2
      go_roundw
      case rel => exact ⟨k + 1, by omega, by go_num, hBq, hCq, hRq, hKq.drewN 1⟩
      case measure => simp [intOf]; omega
    · obtain rfl : k = 4 := by omega
      rw [ovr_all hLen (by rw [zws_length]; omega)] at hC
      clear hLen
      go_wp2_with (with_reducible change wpList _ _ _ (⟨_, Op.load _ _, _, _, _, _⟩ :: _) _ _; refine wpList_load_blk rfl 111 (.tmp 5) rfl c rfl 111 _ _ hC arrCol rfl Hsm.out ?_; refine wpList_store_blk rfl 111 (.tmp 4) (.tmp 63) rfl r _ rfl rfl 111 (zws 4) hR Hsm.out Hzl.out (wvs_one _) ?_)
      intro w6 hR6 hk6 hs6
      go_wp2
      refine bodyPost_ret (results_blk rfl _ r 111 _ _ rfl hR6 arrCol rfl Hsm.out) rfl ?_
      exact ⟨rfl, hK.trans hk6 (by simp; omega)⟩

/-- A box: the table, and the words that the bytes K tell, behind it. -/
def KyAt (w : World) (p : Nat) (K : List UInt8) : Prop := ∀ j, j < 60 → w.cell? ⟨p, 256 + j, none⟩ = some (.int .u32 (wv (wAt K j)))
theorem KyAt.lt {w : World} {p : Nat} {K : List UInt8} (h : KyAt w p K) : p < w.heap.size := World.block_lt_of_cell? w _ (h 0 (by omega))
theorem KyAt.kept {w w' : World} {p : Nat} {K : List UInt8} {S : List Nat} (h : KyAt w p K) (hk : Kept S w w') (hS : p ∉ S) : KyAt w' p K := fun j hj => (hk.cell (p := ⟨p, 256 + j, none⟩) h.lt hS).trans (h j hj)
theorem KyAt.kept0 {w w' : World} {p : Nat} {K : List UInt8} (h : KyAt w p K) (hk : Kept [] w w') : KyAt w' p K := h.kept hk (by simp)

set_option maxRecDepth 100000 in
set_option maxHeartbeats 1000000 in
theorem added_any (p : Nat) (K s : List UInt8) (n : Nat) (z : Int) (w : World) (hky : KyAt w p K) (hz : z = (n : Int)) (hn : n ≤ 14) : Calls Tryd.prog 66 #[.pointer (some ⟨p, 0, none⟩), .agg (wvs (wsOf s 4)).toArray, .int .i64 z] w (AggRet (wsOf (addKey K n s) 4) w) := by
  subst hz
  have Ht := Lib.hid hky
  have Hwl := Lib.hid (wsOf_length s 4)
  have Hml := Lib.hid (wsOf_length (addKey K n s) 4)
  have Hsm := Lib.hid (size_of_lenw (P := Tryd.prog) (ty := 111) sizeCol Hml.out)
  have Hzl := Lib.hid (zws_len Hml.out)
  have hB := Blk.new w 111 (wvs (wsOf s 4))
  have hK1 : Kept [] w (w.alloc (.cells (wvs (wsOf s 4)).toArray 111)) := (Kept.refl [] w).alloc _
  have hs1 : (w.alloc (.cells (wvs (wsOf s 4)).toArray 111)).heap.size = w.heap.size + 1 := by simp
  clear hky
  go_enter Tryd.func66, Tryd.ntmps66
  go_wp2_with (first
    | (with_reducible change wpList _ _ _ (⟨_, Op.box _ _, _, _, _, _⟩ :: _) _ _; refine Great.wpList_boxTo rfl 111 _ rfl _ rfl w.heap.size rfl (wvs (wsOf s 4)).toArray rfl ?_; generalize w.alloc (.cells (wvs (wsOf s 4)).toArray 111) = w1 at *)
    | (with_reducible change wpList _ _ _ (⟨_, Op.alloc _, _, _, _, _⟩ :: _) _ _; refine wpList_alloc_blk rfl 111 rfl _ zeroCol ?_))
  intro w2 hR2 hk2 hs2
  have hB2 := hB.kept0 hk2
  have hK2 := hK1.andThen hk2
  obtain ⟨r, hr⟩ : ∃ r, r = w.heap.size + 1 := ⟨_, rfl⟩
  obtain ⟨g, hg⟩ : ∃ g, g = w.heap.size := ⟨_, rfl⟩
  rw [← hr] at hR2 ⊢
  rw [← hg] at hB2 ⊢
  have n1 : r ≠ g := by omega
  have l1 : w.heap.size ≤ r := by omega
  have l2 : w.heap.size ≤ g := by omega
  clear hB hK1 hs1 hk2 hs2 hr hg
  go_wp2
  go_loopw [8] (fun i wr => ∃ k : Nat, k ≤ 4 ∧ i = .int .i64 (k : Int) ∧ Blk wr g 111 (ovr (wvs (wsOf (addKey K n s) 4)) (wvs (wsOf s 4)) k) ∧ Blk wr r 111 (zws 4) ∧ Kept [] w wr) (fun i _ => 4 - (intOf i).toNat)
  case atStart => exact ⟨0, by omega, rfl, by rw [ovr_zero]; exact hB2, hR2, hK2⟩
  case round =>
    clear hB2 hR2 hK2
    obtain ⟨k, hk, rfl, hB, hR, hK⟩ := hrel
    have hLen : (wvs (wsOf (addKey K n s) 4)).length = (wvs (wsOf s 4)).length := by rw [wvs_length, wvs_length, Hwl.out, Hml.out]
    have hL4 : (wvs (wsOf s 4)).length = 4 := by rw [wvs_length, Hwl.out]
    by_cases hlt : k < 4
    · obtain ⟨a, ha⟩ : ∃ a : Nat, a = 4 * n := ⟨_, rfl⟩
      obtain ⟨b, hb⟩ : ∃ a : Nat, a = 4 * n + k := ⟨_, rfl⟩
      have hg0 : (wvs (wsOf s 4))[k]? = some (.int .u32 (wv (wAt s k))) := by rw [wvs_at (by rw [Hwl.out]; exact hlt), wsOf_get s hlt]
      have ck := Ht.out.kept0 hK b (by omega)
      have Hw := Lib.hid (addW_eq K s n hlt)
      rw [← hb] at Hw
      have cc := (hB.cell k).trans (ovr_ge hLen (Nat.le_refl k) (by omega))
      rw [hg0] at cc
      have hvn : (wvs (wsOf (addKey K n s) 4))[k]? = some (.int .u32 (wv (wAt s k ^^^ wAt K b))) := by rw [wvs_at (by rw [Hml.out]; exact hlt), wsOf_get _ hlt, Hw.out]
      generalize wAt s k = x at *
      generalize wAt K b = y at *
      have f1 := hB.frz k
      have hset := ovr_set (n := k) hLen (by omega) hvn
      have hnew := hB.set k (.int .u32 (wv (x ^^^ y)))
      rw [hset] at hnew
      have hRn := hR.set_other (b := g) k (.int .u32 (wv (x ^^^ y))) n1
      have hKn : Kept [] w (wr.setCell ⟨g, k, none⟩ (.int .u32 (wv (x ^^^ y)))) := hK.setCell (by right; exact l2) _
      have rx : ∀ x y : W32, bits .xor .u32 (wv x) (wv y) = wv (x ^^^ y) := bits_xorW
      have q1 : IntKind.i64.wrap (4 * (n : Int)) = (a : Int) := by rw [IntWalk.i64_in _ (by omega)]; omega
      have q2 : IntKind.i64.wrap ((a : Int) + (k : Int)) = (b : Int) := by rw [IntWalk.i64_in _ (by omega)]; omega
      have z1 : (b : Int) < 60 := by omega
      have zk : (k : Int) < 4 := by omega
      clear hLen hL4 hvn hset hB hR hK hg0 ha hb Hw
      go_wp2
      go_still_tail 14, (by kernel_rfl)
      change wpList _ _ _ _ _ wr.drew
      go_wp2
      go_roundw
      case rel => exact ⟨k + 1, by omega, by go_num, hnew, hRn, hKn.drewN 1⟩
      case measure => simp [intOf]; omega
    · obtain rfl : k = 4 := by omega
      rw [ovr_all hLen (by omega)] at hB
      clear hLen hL4
      go_wp2_with (with_reducible change wpList _ _ _ (⟨_, Op.load _ _, _, _, _, _⟩ :: _) _ _; refine wpList_load_blk rfl 111 (.tmp 4) rfl g rfl 111 _ _ hB arrCol rfl Hsm.out ?_; refine wpList_store_blk rfl 111 (.tmp 6) (.tmp 26) rfl r _ rfl rfl 111 (zws 4) hR Hsm.out Hzl.out (wvs_one _) ?_)
      intro w6 hR6 hk6 hs6
      go_wp2
      refine bodyPost_ret (results_blk rfl _ r 111 _ _ rfl hR6 arrCol rfl Hsm.out) rfl ?_
      exact ⟨rfl, hK.trans hk6 (by simp; omega)⟩
end Go.Proofs.YtmjeojbdieaakaaDoor
