/-
  Contract of layer 13, the document's own: are frames alike? No statement of the seed is proved here.
-/
import Derived.Test.YtibcjbelcplpjaaDoorPd
import Derived.Test.YtibcjbelcplpjaaDoorPe
namespace Go.Proofs.YtibcjbelcplpjaaDoor
open Go.RowKit
set_option linter.unusedVariables false

def frEq (f f' : Fr) : Bool := (f.obj == f'.obj) && ((f.idx == f'.idx) && ((f.cnt == f'.cnt) && ((f.kk == f'.kk) && ((f.cls == f'.cls) && (f.piece == f'.piece)))))
theorem frEq_iff {f f' : Fr} : frEq f f' = true ↔ f = f' := by
  rcases f with ⟨O, a, b, c, d, T⟩
  rcases f' with ⟨O', a', b', c', d', T'⟩
  simp [frEq]
theorem frEq_refl (f : Fr) : frEq f f = true := frEq_iff.2 rfl
theorem eqId_eq {O O' : List UInt8} (h : O.length = 16) (h' : O'.length = 16) (W : World) : (Op.equalIn 10000 25 (.agg (bvs O).toArray) (.agg (bvs O').toArray)).run Tryd.prog W = .ok (O == O') W :=
  run_equalIn_bytes (P := Tryd.prog) W 9998 25 5 16 arrId und8k size_run8k O O' h h'

set_option maxRecDepth 100000 in
set_option maxHeartbeats 8000000 in
theorem rFs_any (f f' : Fr) (A A' : Option Addr) (n c n' c' : Nat) (w : World) (h : FrAt w f A n c) (h' : FrAt w f' A' n' c') :
    Calls Tryd.prog 12 #[.agg (frc f A n c).toArray, .agg (frc f' A' n' c').toArray] w fun e w' => e = .returned (.bool (frEq f f')) ∧ Kept [] w w' := by
  obtain ⟨w1, hw1⟩ : ∃ w1, w1 = w.alloc (.cells (frc f A n c).toArray 28) := ⟨_, rfl⟩
  obtain ⟨w2, hw2⟩ : ∃ w2, w2 = w1.alloc (.cells (frc f' A' n' c').toArray 28) := ⟨_, rfl⟩
  obtain ⟨a, ha⟩ : ∃ a, a = w.heap.size := ⟨_, rfl⟩
  obtain ⟨g, hg⟩ : ∃ g, g = w1.heap.size := ⟨_, rfl⟩
  have hA1 : FrB w1 a f A n c := by rw [hw1, ha]; exact FrB.new w f A n c h.obj
  have hk1 : Kept [] w w1 := by rw [hw1]; exact (Kept.refl [] w).alloc _
  have hk2 : Kept [] w1 w2 := by rw [hw2]; exact (Kept.refl [] w1).alloc _
  have hG : FrB w2 g f' A' n' c' := by rw [hw2, hg]; exact FrB.new w1 f' A' n' c' h'.obj
  have hA := hA1.kept0 hk2
  have HK2 := Lib.hid (hk1.andThen hk2)
  have HP := Lib.hid (h.piece.kept0 HK2.out)
  have HP' := Lib.hid (h'.piece.kept0 HK2.out)
  have d1 := hA.idx
  have d2 := hA.cnt
  have d3 := hA.kk
  have d4 := hA.cls
  have d5 := hA.piece
  have q1 := hG.idx
  have q2 := hG.cnt
  have q3 := hG.kk
  have q4 := hG.cls
  have q5 := hG.piece
  have HrA := Lib.hid hA.range
  have HrG := Lib.hid hG.range
  have Hs1 := Lib.hid (size_of_len (P := Tryd.prog) (ty := 25) sizeId h.obj)
  have Hs2 := Lib.hid (size_of_len (P := Tryd.prog) (ty := 25) sizeId h'.obj)
  have heq := fun W => eqId_eq h.obj h'.obj W
  have W1 := Lib.hid hw1
  have W2 := Lib.hid hw2
  have A0 := Lib.hid ha
  have G0 := Lib.hid hg
  obtain ⟨L, hL⟩ : ∃ L, frc f A n c = L := ⟨_, rfl⟩
  obtain ⟨L', hL'⟩ : ∃ L, frc f' A' n' c' = L := ⟨_, rfl⟩
  rw [hL] at W1 ⊢
  rw [hL'] at W2 ⊢
  clear hw1 hw2 ha hg hA1 hA hk1 hk2 hG h h' hL hL'
  rcases f with ⟨O, x1, x2, x3, x4, T⟩
  rcases f' with ⟨O', y1, y2, y3, y4, T'⟩
  simp only at d1 d2 d3 d4 d5 q1 q2 q3 q4 q5 HP HP' HrA HrG Hs1 Hs2 heq
  have HE : Hid (frEq ⟨O, x1, x2, x3, x4, T⟩ ⟨O', y1, y2, y3, y4, T'⟩ = ((O == O') && ((x1 == y1) && ((x2 == y2) && ((x3 == y3) && ((x4 == y4) && (T == T'))))))) := Lib.hid rfl
  rw [HE.out]
  clear HE
  obtain ⟨b0, hb0⟩ : ∃ b, (O == O') = b := ⟨_, rfl⟩
  obtain ⟨b1, hb1⟩ : ∃ b, (x1 == y1) = b := ⟨_, rfl⟩
  obtain ⟨b2, hb2⟩ : ∃ b, (x2 == y2) = b := ⟨_, rfl⟩
  obtain ⟨b3, hb3⟩ : ∃ b, (x3 == y3) = b := ⟨_, rfl⟩
  obtain ⟨b4, hb4⟩ : ∃ b, (x4 == y4) = b := ⟨_, rfl⟩
  rw [hb0] at heq
  rw [hb0, hb1, hb2, hb3, hb4]
  have hcase : b0 = false ∨ (b0 = true ∧ b1 = false) ∨ (b0 = true ∧ b1 = true ∧ b2 = false) ∨ (b0 = true ∧ b1 = true ∧ b2 = true ∧ b3 = false) ∨ (b0 = true ∧ b1 = true ∧ b2 = true ∧ b3 = true ∧ b4 = false) ∨ (b0 = true ∧ b1 = true ∧ b2 = true ∧ b3 = true ∧ b4 = true) := by
    cases b0 <;> cases b1 <;> cases b2 <;> cases b3 <;> cases b4 <;> simp
  clear hb0
  rcases hcase with rfl | ⟨rfl, rfl⟩ | ⟨rfl, rfl, rfl⟩ | ⟨rfl, rfl, rfl, rfl⟩ | ⟨rfl, rfl, rfl, rfl, rfl⟩ | ⟨rfl, rfl, rfl, rfl, rfl⟩
  all_goals
    go_enter Tryd.func12, Tryd.ntmps12
    go_wp2_with (first
      | (with_reducible change wpList _ _ _ (⟨_, Op.box _ (.tmp 0), _, _, _, _⟩ :: _) _ _; refine Great.wpList_boxTo rfl 28 _ rfl _ rfl a A0.out.symm L.toArray rfl ?_; rw [← W1.out])
      | (with_reducible change wpList _ _ _ (⟨_, Op.box _ (.tmp 1), _, _, _, _⟩ :: _) _ _; refine Great.wpList_boxTo rfl 28 _ rfl _ rfl g G0.out.symm L'.toArray rfl ?_; rw [← W2.out])
      | (with_reducible change wpList _ _ _ (⟨_, Op.load 25 (.tmp 5), _, _, _, _⟩ :: _) _ _; refine wpList_load_mid rfl 25 (.tmp 5) rfl a 0 rfl _ _ HrA.out arrId rfl Hs1.out ?_)
      | (with_reducible change wpList _ _ _ (⟨_, Op.load 25 (.tmp 7), _, _, _, _⟩ :: _) _ _; refine wpList_load_mid rfl 25 (.tmp 7) rfl g 0 rfl _ _ HrG.out arrId rfl Hs2.out ?_)
      | (go_at_call 11; refine (same_k _ _ _ _ _ _ _ _ _ HP.out HP'.out).mono ?_; rintro e w3 ⟨rfl, hk3⟩))
    go_ret
    first
      | exact ⟨ret_bool (by simp), HK2.out⟩
      | exact ⟨ret_bool (by simp), HK2.out.andThen hk3⟩
end Go.Proofs.YtibcjbelcplpjaaDoor
