/-
  Contract of layer 11 (aont): a key, mixed with a digest. No statement of the seed is proved here.
-/
import Derived.Test.YtmjeojbdieaakaaDoorAo6
namespace Go.Proofs.YtmjeojbdieaakaaDoor
open Go.RowKit
set_option linter.unusedVariables false

set_option maxRecDepth 100000 in
set_option maxHeartbeats 2000000 in
theorem aMix_any (a b : List UInt8) (w : World) (hal : a.length = 32) (hbl : b.length = 32) :
    Calls Tryd.prog 26 #[.agg (bvs a).toArray, .agg (bvs b).toArray] w fun e w' => e = .returned (.agg (bvs (xorL b a)).toArray) ∧ Kept [] w w' := by
  obtain ⟨X, hX⟩ : ∃ X, xorL b a = X := ⟨_, rfl⟩
  have HXl : Hid (X.length = 32) := Lib.hid (by rw [← hX]; unfold xorL; rw [List.length_zipWith, hal, hbl]; rfl)
  have HX : Hid (∀ (i : Nat) (x y : UInt8), a[i]? = some x → b[i]? = some y → X[i]? = some (x ^^^ y)) := Lib.hid (fun i x y h1 h2 => by
    rw [← hX, UInt8.xor_comm]
    exact xorL_get h2 h1)
  rw [hX]
  have Hal := Lib.hid hal
  have Hbl := Lib.hid hbl
  have Hsx := Lib.hid (size_of_len (P := Tryd.prog) (ty := 24) size32 HXl.out)
  have Hox := Lib.hid (bvs_one X)
  have HXA : Hid ((bvs X).length = (bvs a).length) := Lib.hid (by rw [bvs_length, bvs_length, HXl.out, Hal.out])
  have Hzx : Hid ((zb 32).length = (bvs X).length) := Lib.hid (by rw [zb_length, bvs_length, HXl.out])
  have hA0 := Blk.new w 24 (bvs a)
  have kA : Kept [] w (w.alloc (.cells (bvs a).toArray 24)) := (Kept.refl [] w).alloc _
  have sA : (w.alloc (.cells (bvs a).toArray 24)).heap.size = w.heap.size + 1 := by simp
  obtain ⟨w1, hw1⟩ : ∃ w1, w1 = w.alloc (.cells (bvs a).toArray 24) := ⟨_, rfl⟩
  rw [← hw1] at hA0 kA sA
  have hB0 := Blk.new w1 24 (bvs b)
  have kB : Kept [] w1 (w1.alloc (.cells (bvs b).toArray 24)) := (Kept.refl [] w1).alloc _
  have sB : (w1.alloc (.cells (bvs b).toArray 24)).heap.size = w1.heap.size + 1 := by simp
  obtain ⟨w2, hw2⟩ : ∃ w2, w2 = w1.alloc (.cells (bvs b).toArray 24) := ⟨_, rfl⟩
  rw [← hw2] at hB0 kB sB
  have hA := hA0.kept0 kB
  have hB := hB0
  have hK2 := kA.andThen kB
  obtain ⟨g, ha⟩ : ∃ g, g = w.heap.size := ⟨_, rfl⟩
  obtain ⟨f, hf⟩ : ∃ f, f = w1.heap.size := ⟨_, rfl⟩
  obtain ⟨r, hr⟩ : ∃ r, r = w2.heap.size := ⟨_, rfl⟩
  have lg : w.heap.size ≤ g := by omega
  have lr : w.heap.size ≤ r := by omega
  have nfg : f ≠ g := by omega
  have nrg : r ≠ g := by omega
  rw [← ha] at hA
  rw [← hf] at hB
  have W1 := Lib.hid hw1
  have W2 := Lib.hid hw2
  have A0 := Lib.hid ha
  have F0 := Lib.hid hf
  have R0 := Lib.hid hr
  clear hA0 kA sA hB0 kB sB hw1 hw2 ha hf hr hal hbl hX
  go_enter Tryd.func26, Tryd.ntmps26
  go_wp2_with (first
    | (with_reducible change wpList _ _ _ (⟨_, Op.box _ (Operand.tmp 0), _, _, _, _⟩ :: _) _ _; refine Great.wpList_boxTo rfl 24 _ rfl _ rfl g A0.out.symm (bvs a).toArray rfl ?_; rw [← W1.out])
    | (with_reducible change wpList _ _ _ (⟨_, Op.box _ (Operand.tmp 1), _, _, _, _⟩ :: _) _ _; refine Great.wpList_boxTo rfl 24 _ rfl _ rfl f F0.out.symm (bvs b).toArray rfl ?_; rw [← W2.out])
    | (with_reducible change wpList _ _ _ (⟨_, Op.alloc _, _, _, _, _⟩ :: _) _ _; refine wpList_alloc_blk rfl 24 rfl _ zero32 ?_))
  intro w3 hR3 hk3 hs3
  rw [← R0.out] at hR3 ⊢
  have hA3 := hA.kept0 hk3
  have hB3 := hB.kept0 hk3
  have hK3 := hK2.andThen hk3
  clear hA hB hK2 hk3 hs3 A0 F0 R0 W1 W2
  go_wp2
  go_loopw [6] (fun i wr => ∃ q : Nat, q ≤ 32 ∧ i = .int .i64 (q : Int) ∧ Blk wr g 24 (ovr (bvs X) (bvs a) q) ∧ Blk wr f 24 (bvs b) ∧ Blk wr r 24 (zb 32) ∧ Kept [] w wr) (fun i _ => 32 - (intOf i).toNat)
  case atStart => exact ⟨0, by omega, rfl, by rw [ovr_zero]; exact hA3, hB3, hR3, hK3⟩
  case round =>
    clear hA3 hB3 hR3 hK3
    obtain ⟨q, hq, rfl, hG, hB, hR, hK⟩ := hrel
    by_cases hlt : q < 32
    · obtain ⟨x, hx⟩ : ∃ x, a[q]? = some x := ⟨a[q]'(by have := Hal.out; omega), List.getElem?_eq_getElem _⟩
      obtain ⟨y, hy⟩ : ∃ y, b[q]? = some y := ⟨b[q]'(by have := Hbl.out; omega), List.getElem?_eq_getElem _⟩
      have gX := HX.out q x y hx hy
      obtain ⟨s8, hs8⟩ : ∃ s8, s8 = x ^^^ y := ⟨_, rfl⟩
      have rx : bits .xor .u8 (x.toNat : Int) (y.toNat : Int) = (s8.toNat : Int) := by rw [bits_xorB, hs8]
      rw [← hs8] at gX
      have c1 : wr.cell? ⟨g, q, none⟩ = some (.int .u8 (x.toNat : Int)) := by
        rw [hG.cell, ovr_ge HXA.out (Nat.le_refl _) (by rw [bvs_length, Hal.out]; omega), bvs, List.getElem?_map, hx]
        rfl
      have c2 : wr.cell? ⟨f, q, none⟩ = some (.int .u8 (y.toNat : Int)) := by
        rw [hB.cell, bvs, List.getElem?_map, hy]
        rfl
      have f1 := hG.frz q
      have hset := ovr_set (n := q) HXA.out (by rw [bvs_length, Hal.out]; exact hlt) (v := .int .u8 (s8.toNat : Int)) (by rw [bvs, List.getElem?_map, gX]; rfl)
      have hnew := hG.set q (.int .u8 (s8.toNat : Int))
      rw [hset] at hnew
      have hBn := hB.set_other (b := g) q (.int .u8 (s8.toNat : Int)) nfg
      have hRn := hR.set_other (b := g) q (.int .u8 (s8.toNat : Int)) nrg
      have hKn : Kept [] w (wr.setCell ⟨g, q, none⟩ (.int .u8 (s8.toNat : Int))) := hK.setCell (by right; exact lg) _
      have zk : (q : Int) < 32 := by omega
      clear hx hy gX hs8 hset hG hB hR hK
      go_wp2
      go_still_tail 8, (by kernel_rfl)
      change wpList _ _ _ _ _ wr.drew
      go_wp2
      go_roundw
      case rel => exact ⟨q + 1, by omega, by go_num, hnew, hBn, hRn, hKn.drewN 1⟩
      case measure => simp [intOf]; omega
    · have hG' : Blk wr g 24 (bvs X) := by
        have h1 := ovr_all (n := q) HXA.out (by rw [bvs_length, Hal.out]; omega)
        rw [h1] at hG
        exact hG
      have HK6 := Lib.hid hK
      clear hG hB hK
      go_wp2_with (first
        | (with_reducible change wpList _ _ _ (⟨_, Op.load _ _, _, _, _, _⟩ :: _) _ _; refine wpList_load_blk rfl 24 (.tmp 2) rfl g rfl 24 (bvs X) _ hG' Tryd.underlying24 rfl Hsx.out ?_)
        | (with_reducible change wpList _ _ _ (⟨_, Op.store _ _ _, _, _, _, _⟩ :: _) _ _; refine wpList_store_blk rfl 24 (.tmp 4) (.tmp 18) rfl r (bvs X) rfl rfl 24 (zb 32) hR Hsx.out Hzx.out Hox.out ?_))
      intro w20 hR20 hk20 hs20
      go_wp2
      refine bodyPost_ret (results_blk rfl _ r 24 _ _ rfl hR20 arr32b rfl Hsx.out) rfl ?_
      exact ⟨rfl, HK6.out.trans hk20 (fun i hi => .inr (by have := List.mem_singleton.1 hi; omega))⟩
end Go.Proofs.YtmjeojbdieaakaaDoor
