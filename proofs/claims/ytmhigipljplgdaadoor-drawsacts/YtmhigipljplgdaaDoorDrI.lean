/-
  What layer 12's laws ask of draws: the contracts that the program's own functions keep, over whatever says what is left. No statement of the seed is proved here.
-/
import Derived.Test.YtmhigipljplgdaaDoorKd0
namespace Go.Proofs.YtmhigipljplgdaaDoor
open Go.RowKit
set_option linter.unusedVariables false

/-- Behind an act: ks are left; blocks of their own alone have turned. -/
def DrTo (Dr : World → Nat → List Nat → Ks → Prop) (p : Nat) (F : List Nat) (ks : Ks) (w w' : World) : Prop := ∃ F', Dr w' p F' ks ∧ Kept F w w' ∧ ∀ i, i ∈ F' → i ∈ F ∨ w.heap.size ≤ i
structure DrHas (Dr : World → Nat → List Nat → Ks → Prop) : Prop where
  kept : ∀ {w w' : World} {p : Nat} {F S : List Nat} {ks : Ks}, Dr w p F ks → Kept S w w' → (∀ i, i ∈ F → i ∉ S) → Dr w' p F ks
  foot : ∀ {w : World} {p : Nat} {F : List Nat} {ks : Ks}, Dr w p F ks → ∀ i, i ∈ F → i < w.heap.size
  new : ∀ (A : Option Addr) (n c : Nat) (ks : Ks) (w : World), RdK w A n c ks → n ≤ 1000 → Calls Tryd.prog 6 #[.slice A n c] w fun e w' => ∃ p F, e = .returned (.pointer (some ⟨p, 0, none⟩)) ∧ Dr w' p F ks ∧ Kept [] w w' ∧ ∀ i, i ∈ F → w.heap.size ≤ i
  next : ∀ (w : World) (p : Nat) (F : List Nat) (k : List UInt8) (ks : Ks), Dr w p F (k :: ks) → Calls Tryd.prog 8 #[.pointer (some ⟨p, 0, none⟩)] w fun e w' => e = .returned (.tuple #[.agg (bvs k).toArray, .int .i64 0]) ∧ DrTo Dr p F ks w w'
  none_ : ∀ (w : World) (p : Nat) (F : List Nat), Dr w p F [] → Calls Tryd.prog 8 #[.pointer (some ⟨p, 0, none⟩)] w fun e w' => e = .returned (.tuple #[.agg (zb 32).toArray, .int .i64 8]) ∧ DrTo Dr p F [] w w'
  some_ : ∀ (w : World) (p : Nat) (F : List Nat) (ks : Ks) (z : Int), Dr w p F ks → -9223372036854775808 ≤ z → z ≤ 9223372036854775807 → ks.length ≤ 100000 →
    Calls Tryd.prog 9 #[.pointer (some ⟨p, 0, none⟩), .int .i64 z] w fun e w' => ∃ A n c, e = .returned (.tuple #[.slice A n c, .int .i64 (somE z ks.length)]) ∧ RdK w' A n c (somO z ks) ∧ DrTo Dr p F (somL z ks) w w'
  more : ∀ (w : World) (p : Nat) (F : List Nat) (ks : Ks) (A : Option Addr) (n c : Nat) (ms : Ks), Dr w p F ks → RdK w A n c ms → (0 < n → Off A F) → ks.length + n ≤ 100000 →
    Calls Tryd.prog 13 #[.pointer (some ⟨p, 0, none⟩), .slice A n c] w fun e w' => e = .returned (.tuple #[]) ∧ DrTo Dr p F (ks ++ ms) w w'
  left_ : ∀ (w : World) (p : Nat) (F : List Nat) (ks : Ks), Dr w p F ks → ks.length ≤ 100000 → Calls Tryd.prog 14 #[.pointer (some ⟨p, 0, none⟩)] w fun e w' => e = .returned (.int .i64 ks.length) ∧ Kept [] w w'
theorem DrHas.kept0 {Dr : World → Nat → List Nat → Ks → Prop} (HD : DrHas Dr) {w w' : World} {p : Nat} {F : List Nat} {ks : Ks} (h : Dr w p F ks) (hk : Kept [] w w') : Dr w' p F ks := HD.kept h hk (fun _ _ => by simp)
theorem som1_nil : somE 1 0 = 8 ∧ somO 1 [] = [] ∧ somL 1 [] = [] := by
  have h : somE 1 0 = 8 := somE_few (by omega)
  have h2 := som_no (z := 1) (ks := []) (by rw [List.length_nil, h]; decide)
  exact ⟨h, h2.1, h2.2⟩
theorem som1_cons (k : List UInt8) (ks : Ks) : somE 1 (ks.length + 1) = 0 ∧ somO 1 (k :: ks) = [k] ∧ somL 1 (k :: ks) = ks := by
  have h : somE ((1 : Nat) : Int) (ks.length + 1) = 0 := somE_ok (by omega)
  have h2 := som_ok (k := 1) (ks := k :: ks) (by simp)
  exact ⟨h, by simpa using h2.1, by simpa using h2.2⟩
theorem somL_length (z : Int) (ks : Ks) : (somL z ks).length ≤ ks.length := by
  unfold somL
  split
  · rw [List.length_drop]; omega
  · exact Nat.le_refl _
end Go.Proofs.YtmhigipljplgdaaDoor
