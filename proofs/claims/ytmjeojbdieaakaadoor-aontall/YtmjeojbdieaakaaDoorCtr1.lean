/-
  Contract of layer 6 (ctr): a number of sixteen bytes, and another one. No statement of the seed is proved here.
-/
import Derived.Test.YtmjeojbdieaakaaDoorAes3
import Derived.Test.YtmjeojbdieaakaaDoorCtrM2
namespace Go.Proofs.YtmjeojbdieaakaaDoor
open Go.RowKit
set_option linter.unusedVariables false

theorem and255 (x : Nat) (h : x < 18446744073709551616) : bits .and .u64 (x : Int) 255 = ((x % 256 : Nat) : Int) := by
  have := u64_and_nat x 255 h (by omega)
  rw [Nat.and_two_pow_sub_one_eq_mod x 8] at this
  exact this
theorem bvs_set (l : List UInt8) (j : Nat) (b : UInt8) (z : Int) (hz : z = (b.toNat : Int)) : (bvs l).set j (.int .u8 z) = bvs (l.set j b) := by
  subst hz; simp [bvs, List.map_set, bcell]

set_option maxRecDepth 100000 in
set_option maxHeartbeats 1000000 in
theorem count_any (l : List UInt8) (n : Nat) (z : Int) (w : World) (hl : l.length = 16) (hn : n < 18446744073709551616) (hz : z = (n : Int)) : Calls Tryd.prog 49 #[.agg (bvs l).toArray, .int .u64 z] w (KeyRet (cnt l n) w) := by
  subst hz
  have Hl := Lib.hid hl
  have Hcl := Lib.hid (cnt_length l n)
  have Hsz := Lib.hid (size_of_len (P := Tryd.prog) (ty := 58) size16 Hcl.out)
  have Hzl := Lib.hid (zb_len Hcl.out)
  have hB := Blk.new w 58 (bvs l)
  have hK1 : Kept [] w (w.alloc (.cells (bvs l).toArray 58)) := (Kept.refl [] w).alloc _
  have hs1 : (w.alloc (.cells (bvs l).toArray 58)).heap.size = w.heap.size + 1 := by simp
  go_enter Tryd.func49, Tryd.ntmps49
  go_wp2_with (first
    | (with_reducible change wpList _ _ _ (⟨_, Op.box _ _, _, _, _, _⟩ :: _) _ _; refine Great.wpList_boxTo rfl 58 _ rfl _ rfl w.heap.size rfl (bvs l).toArray rfl ?_; generalize w.alloc (.cells (bvs l).toArray 58) = w1 at *)
    | (with_reducible change wpList _ _ _ (⟨_, Op.alloc _, _, _, _, _⟩ :: _) _ _; refine wpList_alloc_blk rfl 58 rfl _ zero16 ?_))
  intro w2 hR2 hk2 hs2
  have hB2 := hB.kept0 hk2
  have hK2 := hK1.andThen hk2
  obtain ⟨r, hr⟩ : ∃ r, r = w.heap.size + 1 := ⟨_, rfl⟩
  obtain ⟨g, hg⟩ : ∃ g, g = w.heap.size := ⟨_, rfl⟩
  rw [← hr] at hR2 ⊢
  rw [← hg] at hB2 ⊢
  have n1 : r ≠ g := by omega
  have l1 : w.heap.size ≤ r := by omega
  have l2 : w.heap.size ≤ g := by omega
  clear hB hK1 hs1 hk2 hs2 hl hr hg
  go_wp2
  go_loopw [5, 1] (fun i m wr => ∃ (k x : Nat) (z : Int), k ≤ 16 ∧ i = .int .i64 z ∧ z + (k : Int) = 15 ∧ m = .int .u64 (x : Int) ∧ Hid (x = n / 256 ^ k + cntC l n k) ∧ x < 18446744073709551616 ∧ Blk wr g 58 (bvs (cntP l n k)) ∧ Blk wr r 58 (zb 16) ∧ Kept [] w wr) (fun i _ _ => (intOf i + 1).toNat)
  case atStart => exact ⟨0, n, 15, by omega, rfl, by omega, rfl, Lib.hid (by rw [cntC_zero Hl.out]; simp), hn, by rw [cntP_zero Hl.out]; exact hB2, hR2, hK2⟩
  case round =>
    clear hB2 hR2 hK2 hn
    obtain ⟨k, x, z, hk, rfl, hzk, rfl, Hx, hx, hB, hR, hK⟩ := hrel
    by_cases hlt : k < 16
    · obtain ⟨j, hj⟩ : ∃ j : Nat, j = 15 - k := ⟨_, rfl⟩
      obtain rfl : z = (j : Int) := by omega
      have hb : l[15 - k]? = some (l.getD j 0) := by
        rw [hj, List.getD_eq_getElem?_getD, List.getElem?_eq_getElem (by have := Hl.out; omega)]; rfl
      have c0 : wr.cell? ⟨g, j, none⟩ = some (.int .u8 ((l.getD j 0).toNat : Int)) := by
        rw [hB.cell, bvs, List.getElem?_map, hj, cntP_get Hl.out n hlt, hb, ← hj]; rfl
      generalize l.getD j 0 = b at *
      have f1 := hB.frz j
      obtain ⟨h1, h2⟩ := cnt_prog Hl.out n hlt hb x Hx.out
      rw [← hj] at h1
      have hb8 := b.toNat_lt
      obtain ⟨s, hs⟩ : ∃ s : Nat, s = b.toNat + x % 256 := ⟨_, rfl⟩
      obtain ⟨x2, hx2⟩ : ∃ x2 : Nat, x2 = x / 256 + s / 256 := ⟨_, rfl⟩
      have HX2 : Hid (x2 = n / 256 ^ (k + 1) + cntC l n (k + 1)) := Lib.hid (by rw [← h2, hx2, hs])
      have hx2l : x2 < 18446744073709551616 := by omega
      have a1 := and255 x hx
      obtain ⟨xm, hxm⟩ : ∃ xm : Nat, xm = x % 256 := ⟨_, rfl⟩
      rw [← hxm] at a1 hs h1
      have hxm8 : xm < 256 := by omega
      have hnew := hB.set j (.int .u8 (((UInt8.ofNat s).toNat : Int)))
      rw [bvs_set _ _ (UInt8.ofNat s) _ rfl, hs, h1, ← hs] at hnew
      have hRn := hR.set_other (b := g) j (.int .u8 (((UInt8.ofNat s).toNat : Int))) n1
      have hKn : Kept [] w (wr.setCell ⟨g, j, none⟩ (.int .u8 (((UInt8.ofNat s).toNat : Int)))) := hK.setCell (by right; exact l2) _
      have q1 : IntKind.u64.wrap ((b.toNat : Int) + (xm : Int)) = (s : Int) := by rw [IntWalk.u64_in _ (by omega)]; omega
      have q1' : (b.toNat : Int) + (xm : Int) = (s : Int) := by omega
      have q3 : (s : Int) % 256 = ((UInt8.ofNat s).toNat : Int) := by rw [ofNat_toNat]; omega
      have q4 : (x : Int) / 256 + (s : Int) / 256 = (x2 : Int) := by omega
      have zj : (j : Int) < 16 := by omega
      have hjk : (j : Int) - 1 + ((k + 1 : Nat) : Int) = 15 := by omega
      have hjk := Lib.hid hjk
      clear hB hR hK hj hb h1 h2 hs hx2 hxm Hx hzk
      generalize UInt8.ofNat s = sb8 at *
      go_wp2
      go_roundw
      case rel => exact ⟨k + 1, x2, (j : Int) - 1, by omega, by go_num, hjk.out, rfl, HX2, hx2l, hnew, hRn, hKn⟩
      case measure => simp [intOf]
    · obtain rfl : k = 16 := by omega
      obtain rfl : z = -1 := by omega
      rw [cntP_end] at hB
      clear Hx hx hzk
      go_wp2_with (with_reducible change wpList _ _ _ (⟨_, Op.load _ _, _, _, _, _⟩ :: _) _ _; refine wpList_load_blk rfl 58 (.tmp 2) rfl g rfl 58 _ _ hB arr16b rfl Hsz.out ?_; refine wpList_store_blk rfl 58 (.tmp 4) (.tmp 27) rfl r _ rfl rfl 58 (zb 16) hR Hsz.out Hzl.out (bvs_one _) ?_)
      intro w6 hR6 hk6 hs6
      go_wp2
      refine bodyPost_ret (results_blk rfl _ r 58 _ _ rfl hR6 arr16b rfl Hsz.out) rfl ?_
      exact ⟨rfl, hK.trans hk6 (by simp; omega)⟩
end Go.Proofs.YtmjeojbdieaakaaDoor
