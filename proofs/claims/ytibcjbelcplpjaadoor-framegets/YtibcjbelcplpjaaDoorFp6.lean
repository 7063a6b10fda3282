/-
  Contract of layer 13 (frame): is a frame right? No statement of the seed is proved here.
-/
import Derived.Test.YtibcjbelcplpjaaDoorPd
import Derived.Test.YtibcjbelcplpjaaDoorApS
namespace Go.Proofs.YtibcjbelcplpjaaDoor
open Go.RowKit
set_option linter.unusedVariables false

theorem frRight_all {f : Fr} (h1 : isCls f.cls = true ∧ 1 ≤ f.kk ∧ f.kk ≤ 255) (h2 : (f.piece.length : Int) = (sizN f.cls.toNat f.kk.toNat : Nat)) (h3 : f.kk ≤ f.cnt) (h4 : f.cnt ≤ 255) (h5 : 0 ≤ f.idx) (h6 : f.idx < f.cnt) : frRight f = true :=
  frRight_iff.2 ⟨⟨by omega, by omega, by omega, by omega, by omega, by omega⟩, h1.1, by omega⟩
theorem frRight_none {f : Fr} (h : ¬ (isCls f.cls = true ∧ 1 ≤ f.kk ∧ f.kk ≤ 255) ∨ ¬ (f.piece.length : Int) = (sizN f.cls.toNat f.kk.toNat : Nat) ∨ ¬ f.kk ≤ f.cnt ∨ ¬ f.cnt ≤ 255 ∨ ¬ 0 ≤ f.idx ∨ ¬ f.idx < f.cnt) : frRight f = false := by
  cases hr : frRight f with
  | false => rfl
  | true =>
    obtain ⟨⟨a1, a2, a3, a4, a5, a6⟩, a7, a8⟩ := frRight_iff.1 hr
    rcases h with h | h | h | h | h | h
    · exact absurd ⟨a7, a3, by omega⟩ h
    all_goals omega

set_option maxRecDepth 100000 in
set_option maxHeartbeats 8000000 in
theorem fRi_any (f : Fr) (A : Option Addr) (n c : Nat) (w : World) (h : FrAt w f A n c) : Calls Tryd.prog 13 #[.agg (frc f A n c).toArray] w fun e w' => e = .returned (.bool (frRight f)) ∧ Kept [] w w' := by
  have hB := FrB.new w f A n c h.obj
  have hk : Kept [] w (w.alloc (.cells (frc f A n c).toArray 28)) := (Kept.refl [] w).alloc _
  have d1 := hB.idx
  have d2 := hB.cnt
  have d3 := hB.kk
  have d4 := hB.cls
  have d5 := hB.piece
  obtain ⟨g, hg⟩ : ∃ g, g = w.heap.size := ⟨_, rfl⟩
  rw [← hg] at d1 d2 d3 d4 d5
  have Hg := Lib.hid hg
  have HK := Lib.hid hk
  have hpl := h.piece.len
  obtain ⟨L, hL⟩ : ∃ L, frc f A n c = L := ⟨_, rfl⟩
  rw [hL] at d1 d2 d3 d4 d5 HK ⊢
  clear hB hk hg h hL
  rcases f with ⟨O, zi, zc, zk, zl, T⟩
  simp only at d1 d2 d3 d4 hpl
  by_cases q0 : isCls zl = true ∧ 1 ≤ zk ∧ zk ≤ 255
  · have HS := Lib.hid (sizV_yes q0.1 q0.2.1 q0.2.2)
    obtain ⟨m, hm⟩ : ∃ m : Nat, sizN zl.toNat zk.toNat = m := ⟨_, rfl⟩
    rw [hm] at HS
    have hcase : (¬ (n : Int) = (m : Int)) ∨ ((n : Int) = (m : Int) ∧ ¬ zk ≤ zc) ∨ ((n : Int) = (m : Int) ∧ zk ≤ zc ∧ ¬ zc ≤ 255) ∨ ((n : Int) = (m : Int) ∧ zk ≤ zc ∧ zc ≤ 255 ∧ ¬ 0 ≤ zi) ∨ ((n : Int) = (m : Int) ∧ zk ≤ zc ∧ zc ≤ 255 ∧ 0 ≤ zi ∧ ¬ zi < zc) ∨ ((n : Int) = (m : Int) ∧ zk ≤ zc ∧ zc ≤ 255 ∧ 0 ≤ zi ∧ zi < zc) := by omega
    have HR : Hid (frRight ⟨O, zi, zc, zk, zl, T⟩ = decide ((n : Int) = (m : Int) ∧ zk ≤ zc ∧ zc ≤ 255 ∧ 0 ≤ zi ∧ zi < zc)) := Lib.hid (by
      by_cases hz : (n : Int) = (m : Int) ∧ zk ≤ zc ∧ zc ≤ 255 ∧ 0 ≤ zi ∧ zi < zc
      · rw [decide_eq_true hz]
        exact frRight_all q0 (by simp only; rw [hpl, hm]; exact hz.1) hz.2.1 hz.2.2.1 hz.2.2.2.1 hz.2.2.2.2
      · rw [decide_eq_false hz]
        exact frRight_none (by simp only; rw [hpl, hm]; omega))
    rw [HR.out]
    clear HR q0 hm hpl
    rcases hcase with e1 | ⟨e1, e2⟩ | ⟨e1, e2, e3⟩ | ⟨e1, e2, e3, e4⟩ | ⟨e1, e2, e3, e4, e5⟩ | ⟨e1, e2, e3, e4, e5⟩
    · have k1 : ((n : Int) == (m : Int)) = false := beq_eq_false_iff_ne.2 e1
      have HF := Lib.hid (decide_eq_false (p := (n : Int) = (m : Int) ∧ zk ≤ zc ∧ zc ≤ 255 ∧ 0 ≤ zi ∧ zi < zc) (by omega))
      rw [HF.out]
      clear e1
      go_enter Tryd.func13, Tryd.ntmps13
      go_wp2_with (first
        | (with_reducible change wpList _ _ _ (⟨_, Op.box _ _, _, _, _, _⟩ :: _) _ _; refine Great.wpList_boxTo rfl 28 _ rfl _ rfl g Hg.out.symm L.toArray rfl ?_; generalize w.alloc (.cells L.toArray 28) = w1 at *)
        | (go_at_call 25; refine (aSiz_any _ _ _).mono ?_; rw [HS.out]; rintro e w' ⟨rfl, rfl⟩))
      go_ret
      exact ⟨rfl, HK.out⟩
    · have k1 : ((n : Int) == (m : Int)) = true := beq_iff_eq.2 e1
      have k2 : decide (zk ≤ zc) = false := decide_eq_false e2
      have HF := Lib.hid (decide_eq_false (p := (n : Int) = (m : Int) ∧ zk ≤ zc ∧ zc ≤ 255 ∧ 0 ≤ zi ∧ zi < zc) (by omega))
      rw [HF.out]
      clear e1 e2
      go_enter Tryd.func13, Tryd.ntmps13
      go_wp2_with (first
        | (with_reducible change wpList _ _ _ (⟨_, Op.box _ _, _, _, _, _⟩ :: _) _ _; refine Great.wpList_boxTo rfl 28 _ rfl _ rfl g Hg.out.symm L.toArray rfl ?_; generalize w.alloc (.cells L.toArray 28) = w1 at *)
        | (go_at_call 25; refine (aSiz_any _ _ _).mono ?_; rw [HS.out]; rintro e w' ⟨rfl, rfl⟩))
      go_ret
      exact ⟨rfl, HK.out⟩
    · have k1 : ((n : Int) == (m : Int)) = true := beq_iff_eq.2 e1
      have k2 : decide (zk ≤ zc) = true := decide_eq_true e2
      have k3 : decide (zc ≤ 255) = false := decide_eq_false e3
      have HF := Lib.hid (decide_eq_false (p := (n : Int) = (m : Int) ∧ zk ≤ zc ∧ zc ≤ 255 ∧ 0 ≤ zi ∧ zi < zc) (by omega))
      rw [HF.out]
      clear e1 e2 e3
      go_enter Tryd.func13, Tryd.ntmps13
      go_wp2_with (first
        | (with_reducible change wpList _ _ _ (⟨_, Op.box _ _, _, _, _, _⟩ :: _) _ _; refine Great.wpList_boxTo rfl 28 _ rfl _ rfl g Hg.out.symm L.toArray rfl ?_; generalize w.alloc (.cells L.toArray 28) = w1 at *)
        | (go_at_call 25; refine (aSiz_any _ _ _).mono ?_; rw [HS.out]; rintro e w' ⟨rfl, rfl⟩))
      go_ret
      exact ⟨rfl, HK.out⟩
    · have k1 : ((n : Int) == (m : Int)) = true := beq_iff_eq.2 e1
      have k2 : decide (zk ≤ zc) = true := decide_eq_true e2
      have k3 : decide (zc ≤ 255) = true := decide_eq_true e3
      have k4 : decide (0 ≤ zi) = false := decide_eq_false e4
      have HF := Lib.hid (decide_eq_false (p := (n : Int) = (m : Int) ∧ zk ≤ zc ∧ zc ≤ 255 ∧ 0 ≤ zi ∧ zi < zc) (by omega))
      rw [HF.out]
      clear e1 e2 e3 e4
      go_enter Tryd.func13, Tryd.ntmps13
      go_wp2_with (first
        | (with_reducible change wpList _ _ _ (⟨_, Op.box _ _, _, _, _, _⟩ :: _) _ _; refine Great.wpList_boxTo rfl 28 _ rfl _ rfl g Hg.out.symm L.toArray rfl ?_; generalize w.alloc (.cells L.toArray 28) = w1 at *)
        | (go_at_call 25; refine (aSiz_any _ _ _).mono ?_; rw [HS.out]; rintro e w' ⟨rfl, rfl⟩))
      go_ret
      exact ⟨rfl, HK.out⟩
    · have k1 : ((n : Int) == (m : Int)) = true := beq_iff_eq.2 e1
      have k2 : decide (zk ≤ zc) = true := decide_eq_true e2
      have k3 : decide (zc ≤ 255) = true := decide_eq_true e3
      have k4 : decide (0 ≤ zi) = true := decide_eq_true e4
      have k5 : decide (zi < zc) = false := decide_eq_false e5
      have HF := Lib.hid (decide_eq_false (p := (n : Int) = (m : Int) ∧ zk ≤ zc ∧ zc ≤ 255 ∧ 0 ≤ zi ∧ zi < zc) (by omega))
      rw [HF.out]
      clear e1 e2 e3 e4 e5
      go_enter Tryd.func13, Tryd.ntmps13
      go_wp2_with (first
        | (with_reducible change wpList _ _ _ (⟨_, Op.box _ _, _, _, _, _⟩ :: _) _ _; refine Great.wpList_boxTo rfl 28 _ rfl _ rfl g Hg.out.symm L.toArray rfl ?_; generalize w.alloc (.cells L.toArray 28) = w1 at *)
        | (go_at_call 25; refine (aSiz_any _ _ _).mono ?_; rw [HS.out]; rintro e w' ⟨rfl, rfl⟩))
      go_ret
      exact ⟨rfl, HK.out⟩
    · have k1 : ((n : Int) == (m : Int)) = true := beq_iff_eq.2 e1
      have k2 : decide (zk ≤ zc) = true := decide_eq_true e2
      have k3 : decide (zc ≤ 255) = true := decide_eq_true e3
      have k4 : decide (0 ≤ zi) = true := decide_eq_true e4
      have k5 : decide (zi < zc) = true := decide_eq_true e5
      have HF := Lib.hid (decide_eq_true (p := (n : Int) = (m : Int) ∧ zk ≤ zc ∧ zc ≤ 255 ∧ 0 ≤ zi ∧ zi < zc) (by omega))
      rw [HF.out]
      clear e1 e2 e3 e4 e5
      go_enter Tryd.func13, Tryd.ntmps13
      go_wp2_with (first
        | (with_reducible change wpList _ _ _ (⟨_, Op.box _ _, _, _, _, _⟩ :: _) _ _; refine Great.wpList_boxTo rfl 28 _ rfl _ rfl g Hg.out.symm L.toArray rfl ?_; generalize w.alloc (.cells L.toArray 28) = w1 at *)
        | (go_at_call 25; refine (aSiz_any _ _ _).mono ?_; rw [HS.out]; rintro e w' ⟨rfl, rfl⟩))
      go_ret
      exact ⟨rfl, HK.out⟩
  · have HS := Lib.hid (sizV_no q0)
    rw [frRight_none (.inl q0)]
    clear q0 hpl
    go_enter Tryd.func13, Tryd.ntmps13
    go_wp2_with (first
      | (with_reducible change wpList _ _ _ (⟨_, Op.box _ _, _, _, _, _⟩ :: _) _ _; refine Great.wpList_boxTo rfl 28 _ rfl _ rfl g Hg.out.symm L.toArray rfl ?_; generalize w.alloc (.cells L.toArray 28) = w1 at *)
      | (go_at_call 25; refine (aSiz_any _ _ _).mono ?_; rw [HS.out]; rintro e w' ⟨rfl, rfl⟩))
    go_ret
    exact ⟨rfl, HK.out⟩
end Go.Proofs.YtibcjbelcplpjaaDoor
