/-
  Contract of the document's own answer for layer 6: a number of sixteen bytes, and another one. No statement of the seed is proved here.
-/
import Derived.Test.YtmjeojbdieaakaaDoorCtr1
namespace Go.Proofs.YtmjeojbdieaakaaDoor
open Go.RowKit
set_option linter.unusedVariables false

set_option maxRecDepth 100000 in
set_option maxHeartbeats 1000000 in
theorem rcount_any (l : List UInt8) (n : Nat) (z : Int) (w : World) (hl : l.length = 16) (hn : n < 18446744073709551616) (hz : z = (n : Int)) : Calls Tryd.prog 61 #[.agg (bvs l).toArray, .int .u64 z] w (KeyRet (cnt l n) w) := by
  subst hz
  have Hl := Lib.hid hl
  have Hcl := Lib.hid (cnt_length l n)
  have Hsz := Lib.hid (size_of_len (P := Tryd.prog) (ty := 58) size16 Hcl.out)
  have Hzl := Lib.hid (zb_len Hcl.out)
  have hB := Blk.new w 58 (bvs l)
  have hK1 : Kept [] w (w.alloc (.cells (bvs l).toArray 58)) := (Kept.refl [] w).alloc _
  have hs1 : (w.alloc (.cells (bvs l).toArray 58)).heap.size = w.heap.size + 1 := by simp
  go_enter Tryd.func61, Tryd.ntmps61
  go_wp2_with (first
    | (with_reducible change wpList _ _ _ (⟨_, Op.box _ _, _, _, _, _⟩ :: _) _ _; refine Great.wpList_boxTo rfl 58 _ rfl _ rfl w.heap.size rfl (bvs l).toArray rfl ?_; generalize w.alloc (.cells (bvs l).toArray 58) = w1 at *)
    | (with_reducible change wpList _ _ _ (⟨_, Op.alloc _, _, _, _, _⟩ :: _) _ _; refine wpList_alloc_blk rfl 58 rfl _ zero16 ?_))
  intro w2 hR2 hk2 hs2
  have hB2 := hB.kept0 hk2
  have hK2 := hK1.andThen hk2
  obtain ⟨r, hr⟩ : ∃ r, r = w.heap.size + 1 := ⟨_, rfl⟩
  obtain ⟨g, hg⟩ : ∃ g, g = w.heap.size := ⟨_, rfl⟩
  rw [← hr] at hR2 ⊢
  rw [← hg] at hB2 ⊢
  have n1 : r ≠ g := by omega
  have l1 : w.heap.size ≤ r := by omega
  have l2 : w.heap.size ≤ g := by omega
  clear hB hK1 hs1 hk2 hs2 hl hr hg
  go_wp2
  go_loopw [6, 1, 5] (fun i m y wr => ∃ (k x c : Nat), k ≤ 16 ∧ i = .int .i64 (k : Int) ∧ m = .int .u64 (x : Int) ∧ y = .int .u64 (c : Int) ∧ Hid (x = n / 256 ^ k) ∧ x < 18446744073709551616 ∧ Hid (c = cntC l n k) ∧ c ≤ 1 ∧ Blk wr g 58 (bvs (cntP l n k)) ∧ Blk wr r 58 (zb 16) ∧ Kept [] w wr) (fun i _ _ _ => 16 - (intOf i).toNat)
  case atStart => exact ⟨0, n, 0, by omega, rfl, rfl, rfl, Lib.hid (by simp), hn, Lib.hid (cntC_zero Hl.out n).symm, by omega, by rw [cntP_zero Hl.out]; exact hB2, hR2, hK2⟩
  case round =>
    clear hB2 hR2 hK2 hn
    obtain ⟨k, x, c, hk, rfl, rfl, rfl, Hx, hx, Hc, hc, hB, hR, hK⟩ := hrel
    by_cases hlt : k < 16
    · obtain ⟨j, hj⟩ : ∃ j : Nat, j = 15 - k := ⟨_, rfl⟩
      have hzj : (15 : Int) - (k : Int) = (j : Int) := by omega
      have hb : l[15 - k]? = some (l.getD j 0) := by
        rw [hj, List.getD_eq_getElem?_getD, List.getElem?_eq_getElem (by have := Hl.out; omega)]; rfl
      have c0 : wr.cell? ⟨g, j, none⟩ = some (.int .u8 ((l.getD j 0).toNat : Int)) := by
        rw [hB.cell, bvs, List.getElem?_map, hj, cntP_get Hl.out n hlt, hb, ← hj]; rfl
      generalize l.getD j 0 = b at *
      have f1 := hB.frz j
      have h1 := cntP_step Hl.out n hlt hb
      have h2 := (cnt_sum Hl.out n hlt hb).2
      rw [← hj, ← Hx.out, ← Hc.out] at h1
      rw [← Hx.out, ← Hc.out] at h2
      have hb8 := b.toNat_lt
      obtain ⟨xm, hxm⟩ : ∃ xm : Nat, xm = x % 256 := ⟨_, rfl⟩
      obtain ⟨xd, hxd⟩ : ∃ xd : Nat, xd = x / 256 := ⟨_, rfl⟩
      obtain ⟨s, hs⟩ : ∃ s : Nat, s = b.toNat + xm + c := ⟨_, rfl⟩
      obtain ⟨c2, hc2⟩ : ∃ c2 : Nat, c2 = s / 256 := ⟨_, rfl⟩
      rw [← hxm, ← hs] at h1 h2
      have HX2 : Hid (xd = n / 256 ^ (k + 1)) := Lib.hid (by rw [hxd, Hx.out, Nat.pow_succ, Nat.div_div_eq_div_mul])
      have HC2 : Hid (c2 = cntC l n (k + 1)) := Lib.hid (by rw [h2, hc2])
      have hxdl : xd < 18446744073709551616 := by omega
      have hc2l : c2 ≤ 1 := by omega
      have hxm8 : xm < 256 := by omega
      have hnew := hB.set j (.int .u8 (((UInt8.ofNat s).toNat : Int)))
      rw [bvs_set _ _ (UInt8.ofNat s) _ rfl, h1] at hnew
      have hRn := hR.set_other (b := g) j (.int .u8 (((UInt8.ofNat s).toNat : Int))) n1
      have hKn : Kept [] w (wr.setCell ⟨g, j, none⟩ (.int .u8 (((UInt8.ofNat s).toNat : Int)))) := hK.setCell (by right; exact l2) _
      have q0 : (x : Int) % 256 = (xm : Int) := by omega
      have q1 : (x : Int) / 256 = (xd : Int) := by omega
      have q2 : (b.toNat : Int) + (xm : Int) + (c : Int) = (s : Int) := by omega
      have q3 : (s : Int) % 256 = ((UInt8.ofNat s).toNat : Int) := by rw [ofNat_toNat]; omega
      have q4 : (s : Int) / 256 = (c2 : Int) := by omega
      have zj : (j : Int) < 16 := by omega
      clear hB hR hK hj hb h1 h2 hs hxd hxm hc2 Hx Hc
      generalize UInt8.ofNat s = sb8 at *
      go_wp2
      go_roundw
      case rel => exact ⟨k + 1, xd, c2, by omega, by go_num, rfl, rfl, HX2, hxdl, HC2, hc2l, hnew, hRn, hKn⟩
      case measure => simp [intOf]; omega
    · obtain rfl : k = 16 := by omega
      rw [cntP_end] at hB
      clear Hx hx Hc hc
      go_wp2_with (with_reducible change wpList _ _ _ (⟨_, Op.load _ _, _, _, _, _⟩ :: _) _ _; refine wpList_load_blk rfl 58 (.tmp 2) rfl g rfl 58 _ _ hB arr16b rfl Hsz.out ?_; refine wpList_store_blk rfl 58 (.tmp 4) (.tmp 33) rfl r _ rfl rfl 58 (zb 16) hR Hsz.out Hzl.out (bvs_one _) ?_)
      intro w6 hR6 hk6 hs6
      go_wp2
      refine bodyPost_ret (results_blk rfl _ r 58 _ _ rfl hR6 arr16b rfl Hsz.out) rfl ?_
      exact ⟨rfl, hK.trans hk6 (by simp; omega)⟩
end Go.Proofs.YtmjeojbdieaakaaDoor
