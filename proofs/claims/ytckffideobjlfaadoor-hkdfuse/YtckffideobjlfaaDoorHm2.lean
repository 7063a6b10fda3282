/-
  Contracts of layer 3 (hmac): a key as the digest takes it, and each byte of it turned. No statement of the seed is proved here.
-/
import Derived.Test.YtckffideobjlfaaDoorGen2
import Derived.Test.YtckffideobjlfaaDoorHm0
import Derived.Test.YtckffideobjlfaaDoorHmMath
import Derived.Great.Walk
namespace Go.Proofs.YtckffideobjlfaaDoor
open Go.RowKit
set_option linter.unusedVariables false

theorem zero64k : (Tryd.prog.info? 60).bind (·.zero) = some (.agg (zb 64).toArray) := by kernel_rfl
theorem arr64k : Tryd.prog.underlying 60 = some (.array 64 5) := by kernel_rfl
theorem size64k : (Tryd.prog.info? 60).map (·.size) = some 64 := by kernel_rfl
section
variable {P : Program}
theorem run_cut_all (t e : TypeId) (n g off : Nat) (hu : P.underlying t = some (.array n e)) (hs : (P.info? e).map (·.size) = some 1) (hn : 0 < n) (W : World) :
    (Instr.sliceAt t (.pointer (some ⟨g, off, none⟩)) none none none).run P W = .ok (.slice (some ⟨g, off, none⟩) n n) W := by
  cases hq : P.info? e with
  | none => simp [hq] at hs
  | some i =>
    have hi : i.size = 1 := by simpa [hq] using hs
    simp only [Instr.sliceAt, Instr.sureAddr, Sem.run_bind, run_underlying hu, Result.andThen_ok, Sem.run_pure]
    simp [Instr.sliceBounds, sizeOf, typeInfo, hq, hi, show n ≠ 0 by omega, Addr.add_mid]
end
theorem Blk.all {w : World} {g : Nat} {t : TypeId} {bs : List UInt8} (h : Blk w g t (bvs bs)) (n : Nat) (hl : bs.length = n) (hm : n ≤ 1000) : RdB w (some ⟨g, 0, none⟩) n n bs :=
  h.rdb 0 n n bs (by rw [List.drop_zero, List.take_of_length_le (by rw [bvs_length]; omega)]) hl (Nat.le_refl _) (by simp only [maxLen]; omega)
theorem size_of_len {ty : TypeId} {n : Nat} (h : (Tryd.prog.info? ty).map (·.size) = some n) {bs : List UInt8} (hl : bs.length = n) : (Tryd.prog.info? ty).map (·.size) = some (bvs bs).length := by rw [bvs_length, hl]; exact h
theorem zb_len {n : Nat} {bs : List UInt8} (hl : bs.length = n) : (zb n).length = (bvs bs).length := by rw [bvs_length, hl]; simp [zb, bvs]

def mx (x : UInt8) (bs : List UInt8) (k : Nat) : List UInt8 := (bs.take k).map (· ^^^ x) ++ bs.drop k
theorem mx_zero (x : UInt8) (bs : List UInt8) : mx x bs 0 = bs := by simp [mx]
theorem mx_all (x : UInt8) (bs : List UInt8) (k : Nat) (h : bs.length ≤ k) : mx x bs k = hx x bs := by
  rw [hx_eq]; unfold mx; rw [List.take_of_length_le h, List.drop_eq_nil_of_le h, List.append_nil]
theorem mx_length (x : UInt8) (bs : List UInt8) (k : Nat) : (mx x bs k).length = bs.length := by simp [mx]; omega
theorem mx_get (x : UInt8) (bs : List UInt8) (k : Nat) (y : UInt8) (h : bs[k]? = some y) : (mx x bs k)[k]? = some y := by
  have hk := (List.getElem?_eq_some_iff.1 h).1
  unfold mx
  rw [List.getElem?_append_right (by simp; omega)]
  simp only [List.length_map, List.length_take, List.getElem?_drop]
  rw [show k + (k - min k bs.length) = k by omega, h]
theorem mx_step (x : UInt8) (bs : List UInt8) (k : Nat) (y : UInt8) (h : bs[k]? = some y) : (mx x bs k).set k (y ^^^ x) = mx x bs (k + 1) := by
  have hk := (List.getElem?_eq_some_iff.1 h).1
  have hd : bs.drop k = y :: bs.drop (k + 1) := by
    rw [List.drop_eq_getElem_cons hk]
    congr 1
    exact (List.getElem?_eq_some_iff.1 h).2
  unfold mx
  rw [List.set_append_right _ _ (by simp; omega), hd, List.take_add_one, h]
  simp only [List.length_map, List.length_take, List.map_append, List.append_assoc]
  rw [show k - min k bs.length = 0 by omega]
  rfl

set_option maxRecDepth 100000 in
set_option maxHeartbeats 1000000 in
theorem mixed_any (bs : List UInt8) (x : UInt8) (z : Int) (w : World) (hz : z = (x.toNat : Int)) (hl : bs.length = 64) :
    Calls Tryd.prog 33 #[.agg (bvs bs).toArray, .int .u8 z] w (KeyRet (hx x bs) w) := by
  have hB := Blk.new w 60 (bvs bs)
  have hK1 : Kept [] w (w.alloc (.cells (bvs bs).toArray 60)) := (Kept.refl [] w).alloc _
  have hs1 : (w.alloc (.cells (bvs bs).toArray 60)).heap.size = w.heap.size + 1 := by simp
  go_enter Tryd.func33, Tryd.ntmps33
  go_wp2_with (first
    | (with_reducible change wpList _ _ _ (⟨_, Op.box _ _, _, _, _, _⟩ :: _) _ _; refine Great.wpList_boxTo rfl 60 _ rfl _ rfl w.heap.size rfl (bvs bs).toArray rfl ?_; generalize w.alloc (.cells (bvs bs).toArray 60) = w1 at *)
    | (with_reducible change wpList _ _ _ (⟨_, Op.alloc _, _, _, _, _⟩ :: _) _ _; refine wpList_alloc_blk rfl 60 rfl _ zero64k ?_))
  intro w2 hR2 hk2 hs2
  have hB2 := hB.kept0 hk2
  have hK2 := hK1.andThen hk2
  obtain ⟨g, hg⟩ : ∃ g, g = w.heap.size := ⟨_, rfl⟩
  obtain ⟨r, hr⟩ : ∃ r, r = w.heap.size + 1 := ⟨_, rfl⟩
  have Hl := Lib.hid hl
  rw [← hr] at hR2 ⊢
  rw [← hg] at hB2 ⊢
  have hrg : r ≠ g := by omega
  have hgw : w.heap.size ≤ g := by omega
  have hrw : w.heap.size ≤ r := by omega
  clear hB hK1 hs1 hk2 hs2 hl hg hr
  go_wp2
  go_loopw [6] (fun i wr => ∃ k : Nat, k ≤ 64 ∧ i = .int .i64 k ∧ Blk wr g 60 (bvs (mx x bs k)) ∧ Blk wr r 60 (zb 64) ∧ Kept [] w wr) (fun i _ => 64 - (intOf i).toNat)
  case atStart => exact ⟨0, by omega, rfl, by rw [mx_zero]; exact hB2, hR2, hK2⟩
  case round =>
    obtain ⟨k, hk, rfl, hB3, hR3, hK3⟩ := hrel
    clear hB2 hR2 hK2
    by_cases hlt : k < 64
    · obtain ⟨y, hy⟩ : ∃ y, bs[k]? = some y := ⟨bs[k]'(by have := Hl.out; omega), List.getElem?_eq_getElem _⟩
      have c1 : wr.cell? ⟨g, k, none⟩ = some (.int .u8 (y.toNat : Int)) := by
        rw [hB3.cell, bvs, List.getElem?_map, mx_get x bs k y hy]; rfl
      have f1 := hB3.frz k
      have hS : Blk (wr.setCell ⟨g, k, none⟩ (bcell (y ^^^ x))) g 60 (bvs (mx x bs (k + 1))) := by
        refine (hB3.set k _).of_eq ?_
        rw [← mx_step x bs k y hy, bvs, bvs, List.map_set]
      have hS2 : Blk (wr.setCell ⟨g, k, none⟩ (bcell (y ^^^ x))) r 60 (zb 64) := hR3.set_other k _ hrg
      have hS3 : Kept [] w (wr.setCell ⟨g, k, none⟩ (bcell (y ^^^ x))) := hK3.setCell (by right; show w.heap.size ≤ g; omega) _
      have hv : bcell (y ^^^ x) = .int .u8 (bits .xor .u8 (y.toNat : Int) (x.toNat : Int)) := by rw [bits_xorB]; rfl
      rw [hv] at hS hS2 hS3
      subst hz
      clear hB3 hR3 hK3 hy hv
      go_wp2
      go_roundw
      case rel => exact ⟨k + 1, by omega, by go_num, hS, hS2, hS3⟩
      case measure => simp [intOf]; omega
    · obtain rfl : k = 64 := by omega
      have e := mx_all x bs 64 (by have := Hl.out; omega)
      have h64 : (hx x bs).length = 64 := by rw [hx_length]; exact Hl.out
      rw [e] at hB3
      clear e
      go_wp2_with (with_reducible change wpList _ _ _ (⟨_, Op.load _ _, _, _, _, _⟩ :: _) _ _; refine wpList_load_blk rfl 60 (.tmp 2) rfl g rfl 60 _ _ hB3 arr64k rfl (size_of_len size64k h64) ?_; refine wpList_store_blk rfl 60 (.tmp 4) (.tmp 16) rfl r _ rfl rfl 60 (zb 64) hR3 (size_of_len size64k h64) (zb_len h64) (bvs_one _) ?_)
      intro w6 hR6 hk6 hs6
      go_wp2
      refine bodyPost_ret (results_blk rfl _ r 60 _ _ rfl hR6 arr64k rfl (size_of_len size64k h64)) rfl ?_
      exact ⟨rfl, hK3.trans hk6 (by simp; omega)⟩

theorem splice_pad (l : List UInt8) (h : l.length ≤ 64) : splice (zb 64) 0 (bvs l) = bvs (hpad l) := by
  unfold splice zb hpad
  rw [List.take_zero, List.nil_append, bvs_append, bvs_length, Nat.zero_add, bvs_zeros, bvs_zeros, List.drop_replicate]

set_option maxRecDepth 100000 in
set_option maxHeartbeats 1000000 in
theorem filled_any (A : Option Addr) (n c : Nat) (key : List UInt8) (w : World) (hr : RdB w A n c key) (hgl : Glob w) (hL : n < 1099511600000) :
    Calls Tryd.prog 32 #[.slice A n c] w (KeyRet (hkey key) w) := by
  have hl := hr.len
  have h64 := hkey_length key
  have hcutB := fun g => run_cut_all (P := Tryd.prog) 60 5 64 g 0 arr64k size1b (by omega)
  have hcutK := fun g => run_cut_all (P := Tryd.prog) 25 5 32 g 0 arr32b size1b (by omega)
  by_cases hbig : 64 < n
  · have hd := shaSum_length key
    have hk := hkey_long (key := key) (by omega)
    have hp := splice_pad (shaSum key) (by omega)
    rw [← hk] at hp
    have hp2 : splice (zb 64) 0 (bvs ((shaSum key).take 32)) = bvs (hkey key) := by rw [List.take_of_length_le (by omega)]; exact hp
    have H2 := Lib.hid hp2
    clear hp hk hp2
    go_enter Tryd.func32, Tryd.ntmps32
    go_wp2_with (with_reducible change wpList _ _ _ (⟨_, Op.alloc _, _, _, _, _⟩ :: _) _ _; refine wpList_alloc_blk rfl 60 rfl _ zero64k ?_)
    intro w1 hR1 hk1 hs1
    go_wp2_with (with_reducible change wpList _ _ _ (⟨_, Op.alloc _, _, _, _, _⟩ :: _) _ _; refine wpList_alloc_blk rfl 60 rfl _ zero64k ?_)
    intro w2 hB2 hk2 hs2
    obtain ⟨g2, hg2⟩ : ∃ g2, g2 = w.heap.size := ⟨_, rfl⟩
    obtain ⟨g3, hg3⟩ : ∃ g3, g3 = w.heap.size + 1 := ⟨_, rfl⟩
    rw [← hg3] at hB2 ⊢
    rw [← hg2] at hR1 ⊢
    have hK2 := hk1.andThen hk2
    have hR2 := hR1.kept0 hk2
    have hg23 : g2 ≠ g3 := by omega
    have hw2 : w.heap.size ≤ g2 := by omega
    have hw3 : w.heap.size ≤ g3 := by omega
    have h3lt := hB2.lt
    have h2lt := hR2.lt
    clear hs1 hs2 hg2 hg3
    go_wp2_with fail
    refine (sum_any A n c key _ (hr.kept0 hK2) (hgl.kept0 hK2) hL).mono ?_
    rintro e w3 ⟨rfl, hk3⟩
    have hK3 := hK2.andThen hk3
    have hR3 := hR2.kept0 hk3
    have hB3 := hB2.kept0 hk3
    have hsz3 := hk3.size
    clear hR1 hk1 hk2 hR2 hK2 hB2
    go_wp2_with (with_reducible change wpList _ _ _ (⟨_, Op.alloc _, _, _, _, _⟩ :: _) _ _; refine wpList_alloc_blk rfl 25 rfl _ zero32 ?_)
    intro w4 hD4 hk4 hs4
    obtain ⟨g4, hg4⟩ : ∃ g4, g4 = w3.heap.size := ⟨_, rfl⟩
    rw [← hg4] at hD4 ⊢
    have hg42 : g2 ≠ g4 := by have := hk3.size; omega
    have hg43 : g3 ≠ g4 := by have := hk3.size; omega
    have hw4 : w.heap.size ≤ g4 := by have := hK3.size; omega
    clear hs4 hg4 hsz3
    go_wp2_with (with_reducible change wpList _ _ _ (⟨_, Op.store _ _ _, _, _, _, _⟩ :: _) _ _; refine wpList_store_blk rfl 25 (.tmp 4) (.tmp 9) rfl g4 (bvs (shaSum key)) rfl rfl 25 (zb 32) hD4 (key_size _) (key_zb _) (bvs_one _) ?_)
    intro w5 hD5 hk5 hs5
    have hne2 : g2 ∉ [g4] := by simp; omega
    have hne3 : g3 ∉ [g4] := by simp; omega
    have hR5 := (hR3.kept0 hk4).kept hk5 hne2
    have hB5 := (hB3.kept0 hk4).kept hk5 hne3
    have hK5 : Kept [] w w5 := (hK3.andThen hk4).trans hk5 (by have := hK3.size; simp; omega)
    have hS5 := hD5.all 32 hd (by omega)
    clear hR3 hB3 hD4 hk4 hk5 hK3
    go_wp2_with (with_reducible change wpList _ _ _ (⟨_, Op.call _, _, _, _, _⟩ :: _) _ _; refine wpList_copy_blk rfl (.tmp 11) (.tmp 12) 22 rfl 5 Tryd.underlying22 size1b g3 0 64 64 _ 32 32 _ rfl rfl hS5 (by omega) 60 _ hB5 32 rfl (by simp [zb, bvs]) ?_)
    intro w6 hB6 hk6
    rw [H2.out] at hB6
    have hne6 : g2 ∉ [g3] := by simp; omega
    have hR6 := hR5.kept hk6 hne6
    have hK6 : Kept [] w w6 := hK5.trans hk6 (by simp; omega)
    clear hR5 hB5 hK5 hS5 hk6 hD5
    go_wp2_with (with_reducible change wpList _ _ _ (⟨_, Op.load _ _, _, _, _, _⟩ :: _) _ _; refine wpList_load_blk rfl 60 (.tmp 3) rfl g3 rfl 60 _ _ hB6 arr64k rfl (size_of_len size64k h64) ?_; refine wpList_store_blk rfl 60 (.tmp 2) (.tmp 14) rfl g2 _ rfl rfl 60 (zb 64) hR6 (size_of_len size64k h64) (zb_len h64) (bvs_one _) ?_)
    intro w7 hR7 hk7 hs7
    go_wp2
    refine bodyPost_ret (results_blk rfl _ g2 60 _ _ rfl hR7 arr64k rfl (size_of_len size64k h64)) rfl ?_
    exact ⟨rfl, hK6.trans hk7 (by simp; omega)⟩
  · have hk := hkey_short (key := key) (by omega)
    have hp := splice_pad key (by omega)
    rw [← hk] at hp
    have hp2 : splice (zb 64) 0 (bvs (key.take n)) = bvs (hkey key) := by rw [List.take_of_length_le (by omega)]; exact hp
    have H2 := Lib.hid hp2
    have H0 : Hid (n = 0 → zb 64 = bvs (hkey key)) := Lib.hid (fun h0 => by
      have : key = [] := List.eq_nil_of_length_eq_zero (by omega)
      subst this
      rw [← hp]; rfl)
    have Hl := Lib.hid hl
    clear hp hk hp2 hl
    go_enter Tryd.func32, Tryd.ntmps32
    go_wp2_with (with_reducible change wpList _ _ _ (⟨_, Op.alloc _, _, _, _, _⟩ :: _) _ _; refine wpList_alloc_blk rfl 60 rfl _ zero64k ?_)
    intro w1 hR1 hk1 hs1
    go_wp2_with (with_reducible change wpList _ _ _ (⟨_, Op.alloc _, _, _, _, _⟩ :: _) _ _; refine wpList_alloc_blk rfl 60 rfl _ zero64k ?_)
    intro w2 hB2 hk2 hs2
    obtain ⟨g2, hg2⟩ : ∃ g2, g2 = w.heap.size := ⟨_, rfl⟩
    obtain ⟨g3, hg3⟩ : ∃ g3, g3 = w.heap.size + 1 := ⟨_, rfl⟩
    rw [← hg3] at hB2 ⊢
    rw [← hg2] at hR1 ⊢
    have hK2 := hk1.andThen hk2
    have hR2 := hR1.kept0 hk2
    have hg23 : g2 ≠ g3 := by omega
    have hw2 : w.heap.size ≤ g2 := by omega
    have hw3 : w.heap.size ≤ g3 := by omega
    have h3lt := hB2.lt
    have h2lt := hR2.lt
    clear hs1 hs2 hg2 hg3
    have hr2 := hr.kept0 hK2
    clear hR1 hk1 hk2 hr
    rcases Nat.eq_zero_or_pos n with h0 | h0
    · subst h0
      have e0 := H0.out rfl
      have hB6 := hB2.of_eq e0
      clear hB2 e0
      go_wp2_with (first
        | (with_reducible change wpList _ _ _ (⟨_, Op.call _, _, _, _, _⟩ :: _) _ _; refine wpList_copy_nothing rfl (.tmp 11) (.tmp 12) 22 22 rfl 5 Tryd.underlying22 size1b _ _ _ _ _ _ rfl rfl rfl ?_)
        | (with_reducible change wpList _ _ _ (⟨_, Op.load _ _, _, _, _, _⟩ :: _) _ _; refine wpList_load_blk rfl 60 (.tmp 3) rfl g3 rfl 60 _ _ hB6 arr64k rfl (size_of_len size64k h64) ?_; refine wpList_store_blk rfl 60 (.tmp 2) (.tmp 14) rfl g2 _ rfl rfl 60 (zb 64) hR2 (size_of_len size64k h64) (zb_len h64) (bvs_one _) ?_))
      intro w7 hR7 hk7 hs7
      go_wp2
      refine bodyPost_ret (results_blk rfl _ g2 60 _ _ rfl hR7 arr64k rfl (size_of_len size64k h64)) rfl ?_
      exact ⟨rfl, hK2.trans hk7 (by simp; omega)⟩
    · go_wp2_with (with_reducible change wpList _ _ _ (⟨_, Op.call _, _, _, _, _⟩ :: _) _ _; refine wpList_copy_blk rfl (.tmp 11) (.tmp 12) 22 rfl 5 Tryd.underlying22 size1b g3 0 64 64 A n c key rfl rfl hr2 h0 60 _ hB2 n (by omega) (by simp [zb, bvs]; omega) ?_)
      intro w6 hB6 hk6
      rw [H2.out] at hB6
      have hne6 : g2 ∉ [g3] := by simp; omega
      have hR6 := hR2.kept hk6 hne6
      have hK6 : Kept [] w w6 := hK2.trans hk6 (by simp; omega)
      clear hR2 hB2 hK2 hr2 hk6
      go_wp2_with (with_reducible change wpList _ _ _ (⟨_, Op.load _ _, _, _, _, _⟩ :: _) _ _; refine wpList_load_blk rfl 60 (.tmp 3) rfl g3 rfl 60 _ _ hB6 arr64k rfl (size_of_len size64k h64) ?_; refine wpList_store_blk rfl 60 (.tmp 2) (.tmp 14) rfl g2 _ rfl rfl 60 (zb 64) hR6 (size_of_len size64k h64) (zb_len h64) (bvs_one _) ?_)
      intro w7 hR7 hk7 hs7
      go_wp2
      refine bodyPost_ret (results_blk rfl _ g2 60 _ _ rfl hR7 arr64k rfl (size_of_len size64k h64)) rfl ?_
      exact ⟨rfl, hK6.trans hk7 (by simp; omega)⟩
end Go.Proofs.YtckffideobjlfaaDoor
