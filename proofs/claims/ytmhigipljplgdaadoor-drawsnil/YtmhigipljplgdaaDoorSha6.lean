/-
  Contracts of the functions that end a text and tell the digest, layer 2 (sha). No statement of the seed is proved here.
-/
import Derived.Test.YtmhigipljplgdaaDoorSha5
namespace Go.Proofs.YtmhigipljplgdaaDoor
open Go.RowKit
set_option linter.unusedVariables false

theorem splice_bvs (a : List UInt8) (off : Nat) (b : List UInt8) : splice (bvs a) off (bvs b) = bvs (splice a off b) := by
  simp [splice, bvs, List.map_take, List.map_drop]
theorem be_append : ∀ (m n x : Nat), be (m + n) x = be m (x / 256 ^ n) ++ be n x
  | m, 0, x => by simp [be]
  | m, n + 1, x => by
    rw [← Nat.add_assoc, be, be_append m n, be, Nat.div_div_eq_div_mul, ← Nat.pow_succ', List.append_assoc]
theorem ofNat_mod256 (x : Nat) : UInt8.ofNat (x % 256) = UInt8.ofNat x := by
  apply UInt8.toNat_inj.1; rw [ofNat_toNat, ofNat_toNat]; omega
theorem be_mod : ∀ (n x y : Nat), x % 256 ^ n = y % 256 ^ n → be n x = be n y
  | 0, _, _, _ => rfl
  | n + 1, x, y, h => by
    have hp : 0 < 256 ^ n := Nat.pow_pos (by omega)
    rw [Nat.pow_succ] at h
    have h1 : x / 256 % 256 ^ n = y / 256 % 256 ^ n := by
      have a1 := Nat.mod_mul_left_div_self x 256 (256 ^ n)
      have a2 := Nat.mod_mul_left_div_self y 256 (256 ^ n)
      rw [← a1, ← a2, h]
    have h2 : x % 256 = y % 256 := by
      have a1 := Nat.mod_mul_left_mod x (256 ^ n) 256
      have a2 := Nat.mod_mul_left_mod y (256 ^ n) 256
      rw [← a1, ← a2, h]
    rw [be, be, be_mod n _ _ h1, ← ofNat_mod256 x, ← ofNat_mod256 y, h2]
theorem be4_ofNat (x : Nat) : be 4 (BitVec.ofNat 32 x).toNat = be 4 x := by
  apply be_mod
  rw [BitVec.toNat_ofNat]
  omega
theorem be8_two (x : Nat) : be 8 x = be 4 (BitVec.ofNat 32 (x / 4294967296)).toNat ++ be 4 (BitVec.ofNat 32 x).toNat := by
  rw [be4_ofNat, be4_ofNat]
  exact be_append 4 4 x

/-- What stands behind a text, as it is laid into a row of noughts. -/
def behindB (L : Nat) : List UInt8 := splice (splice (128 :: List.replicate 71 0) (fillN L) (be 4 (BitVec.ofNat 32 (8 * L / 4294967296)).toNat)) (fillN L + 4) (be 4 (BitVec.ofNat 32 (8 * L)).toNat)
theorem behindB_take (L : Nat) : (behindB L).take (fillN L + 8) = tail8 L := by
  have hf := fillN_pos L
  have l1 := be_length 4 (BitVec.ofNat 32 (8 * L / 4294967296)).toNat
  have l2 := be_length 4 (BitVec.ofNat 32 (8 * L)).toNat
  have e1 := splice_take (128 :: List.replicate 71 (0 : UInt8)) (fillN L) (be 4 (BitVec.ofNat 32 (8 * L / 4294967296)).toNat) (by rw [l1]; simp; omega)
  have e2 := splice_take (splice (128 :: List.replicate 71 (0 : UInt8)) (fillN L) (be 4 (BitVec.ofNat 32 (8 * L / 4294967296)).toNat)) (fillN L + 4) (be 4 (BitVec.ofNat 32 (8 * L)).toNat) (by rw [length_splice _ _ _ (by rw [l1]; simp; omega), l2]; simp; omega)
  rw [l2, show fillN L + 4 + 4 = fillN L + 8 by omega] at e2
  rw [l1] at e1
  unfold behindB
  rw [e2, e1]
  unfold tail8
  rw [be8_two, List.append_assoc]
  congr 1
  obtain ⟨f, hf2⟩ : ∃ f, fillN L = f + 1 := ⟨fillN L - 1, by omega⟩
  rw [hf2, List.take_succ_cons, Nat.add_sub_cancel, List.take_replicate]
  congr 2; omega

theorem putWord_at (g off n c : Nat) (t : TypeId) (cs : List Value) (x : W32) (z : Int) (w : World) (hz : z = wv x) (hb : Blk w g t cs) (hn : 4 ≤ n) (hc : n ≤ c) (ho : off + 4 ≤ cs.length) :
    Calls Tryd.prog 33 #[.slice (some ⟨g, off, none⟩) n c, .int .u32 z] w (SetRet g t (splice cs off (bvs (be 4 x.toNat))) w) := by
  subst hz; exact putWord_any g off n c t cs x w hb hn hc ho

theorem zero72 : (Tryd.prog.info? 75).bind (·.zero) = some (.agg (zb 72).toArray) := by kernel_rfl
theorem arr72b : Tryd.prog.underlying 75 = some (.array 72 5) := by kernel_rfl

set_option maxRecDepth 100000 in
set_option maxHeartbeats 4000000 in
theorem wend_any (p : Nat) (bs : List UInt8) (L : Nat) (w : World) (hW : WkL w p 68 bs L) (hgl : Glob w) (hp : 0 < p ∧ 1 < p) (hL : L < 1099511620000) :
    Calls Tryd.prog 27 #[.pointer (some ⟨p, 0, none⟩)] w (TakeRet p (bs ++ tail8 L) (L + (fillN L + 8)) w) := by
  have hplt := hW.lt
  have hf := fillN_pos L
  have hfz : 64 - ((L : Int) + 8) % 64 = (fillN L : Int) := by unfold fillN; omega
  go_enter Tryd.func27, Tryd.ntmps27
  go_wp2_with (with_reducible change wpList _ _ _ (⟨_, Op.alloc _, _, _, _, _⟩ :: _) _ _; refine wpList_alloc_blk rfl 75 rfl _ zero72 ?_)
  intro w1 hG1 hk1 hs1
  obtain ⟨blk, hl, hB, hw⟩ := hW.kept0 hk1
  have c73 := (hB.cell 73).trans (wkc_len _ _ _ _ hl)
  have c0 : w1.cell? ⟨w.heap.size, 0, none⟩ = some (.int .u8 0) := hG1.cell 0
  have f0 := hG1.frz 0
  have hG2 : Blk (w1.setCell ⟨w.heap.size, 0, none⟩ (.int .u8 128)) w.heap.size 75 (bvs (128 :: List.replicate 71 0)) := hG1.set 0 _
  have hk2 : Kept [] w (w1.setCell ⟨w.heap.size, 0, none⟩ (.int .u8 128)) := hk1.setCell (by simp) _
  have hcut1 := run_cut_from (P := Tryd.prog) 75 5 72 w.heap.size 0 .u64 (fillN L) (fillN L : Int) arr72b size1b rfl (by omega)
  have hcut2 := run_cut_from (P := Tryd.prog) 75 5 72 w.heap.size 0 .u64 (fillN L + 4) ((fillN L : Int) + 4) arr72b size1b (by omega) (by omega)
  have hcut3 := run_cut_to (P := Tryd.prog) 75 5 72 w.heap.size 0 .u64 (fillN L + 8) ((fillN L : Int) + 8) arr72b size1b (by omega) (by omega) (by omega)
  have hl1 : (splice (128 :: List.replicate 71 (0 : UInt8)) (fillN L) (be 4 (BitVec.ofNat 32 (8 * L / 4294967296)).toNat)).length = 72 := by rw [length_splice _ _ _ (by rw [be_length]; simp; omega)]; simp
  have hl2 : (behindB L).length = 72 := by unfold behindB; rw [length_splice _ _ _ (by rw [hl1, be_length]; omega), hl1]
  have Hl1 := Lib.hid hl1
  have Hl2 := Lib.hid hl2
  clear hl1 hl2
  go_wp2_with fail
  refine (putWord_at w.heap.size (fillN L) _ _ 75 _ (BitVec.ofNat 32 (8 * L / 4294967296)) _ _ (by rw [wv_ofNat _ (by omega)]; omega) hG2 (by omega) (Nat.le_refl _) (by rw [bvs_length]; simp; omega)).mono ?_
  rintro e w3 ⟨rfl, hG3, hk3⟩
  rw [splice_bvs] at hG3
  go_wp2_with fail
  refine (putWord_at w.heap.size (fillN L + 4) _ _ 75 _ (BitVec.ofNat 32 (8 * L)) _ _ (by rw [wv_eq, BitVec.toNat_ofNat]; omega) hG3 (by omega) (Nat.le_refl _) (by rw [bvs_length, Hl1.out]; omega)).mono ?_
  rintro e w4 ⟨rfl, hG4, hk4⟩
  rw [splice_bvs] at hG4
  have hK4 : Kept [] w w4 := (hk2.trans hk3 (by simp)).trans hk4 (by simp)
  have hW4 := hW.kept0 hK4
  have hgl4 := hgl.kept0 hK4
  have hr4 : RdB w4 (some ⟨w.heap.size, 0, none⟩) (fillN L + 8) 72 (tail8 L) := by
    refine Blk.rdb hG4 0 _ _ _ ?_ (tail8_length L) (by omega) (by simp [maxLen])
    rw [List.drop_zero, ← behindB_take L]
    simp [bvs, List.map_take, behindB]
  clear hG1 hk1 hB hw c73 c0 f0 hG2 hk2 hG3 hk3 hG4 hk4
  go_wp2_with fail
  refine (take_any p bs (tail8 L) L _ _ _ _ hW4 hr4 (fun _ a ha => by cases ha; simp; omega) hgl4 hp (by omega)).mono ?_
  rintro e w5 ⟨rfl, hW5, hk5⟩
  go_wp2
  go_end0
  exact ⟨rfl, hW5, (hK4.mono (by simp)).trans hk5 (fun i hi => .inl hi)⟩
end Go.Proofs.YtmhigipljplgdaaDoor
