/-
  Lists of texts, going on: rows that grow beside the texts that they hold. No statement of the seed is proved here.
-/
import Derived.Test.YtmfbgogfefgglaaTxts
namespace Go.Proofs.Ytmfbgogfefgglaa
open Go.RowKit
set_option linter.unusedVariables false

/-- Cells that are texts, none of them in the row u. -/
def TxtO (w : World) (u : Value) (vs : List Value) (ls : List (List UInt8)) : Prop :=
  vs.length = ls.length ∧ ∀ (j : Nat) (v : Value) (l : List UInt8), vs[j]? = some v → ls[j]? = some l → ∃ A n c, v = .slice A n c ∧ RdB w A n c l ∧ (0 < n → ∀ g, u.ownBlock = some g → ∀ a, A = some a → a.block ≠ g)
theorem TxtO.nil (w : World) (u : Value) : TxtO w u [] [] := ⟨rfl, fun j v l h => by simp at h⟩
theorem TxtO.txt {w : World} {u : Value} {vs : List Value} {ls : List (List UInt8)} (h : TxtO w u vs ls) : TxtVs w vs ls :=
  ⟨h.1, fun j v l h1 h2 => by obtain ⟨A, n, c, e, hr, _⟩ := h.2 j v l h1 h2; exact ⟨A, n, c, e, hr⟩⟩
theorem TxtO.kept0 {w w' : World} {u : Value} {vs : List Value} {ls : List (List UInt8)} (h : TxtO w u vs ls) (hk : Kept [] w w') : TxtO w' u vs ls :=
  ⟨h.1, fun j v l h1 h2 => by obtain ⟨A, n, c, e, hr, ho⟩ := h.2 j v l h1 h2; exact ⟨A, n, c, e, hr.kept0 hk, ho⟩⟩
theorem TxtO.app {W W' : World} {u u' : Value} {vs : List Value} {ls : List (List UInt8)} (h : TxtO W u vs ls) (hk : Kept u.ownBlock.toList W W') (hm : Moved W u u') : TxtO W' u' vs ls := by
  refine ⟨h.1, fun j v l h1 h2 => ?_⟩
  obtain ⟨A, n, c, e, hr, ho⟩ := h.2 j v l h1 h2
  refine ⟨A, n, c, e, hr.keptIf hk (fun hn a ha hin => ho hn _ (by simpa using hin) a ha rfl), fun hn g hg a ha => ?_⟩
  rcases hm g hg with h3 | h3
  · exact ho hn g h3 a ha
  · obtain ⟨b, off, e2, hb, _⟩ := hr.at_ hn
    rw [e2] at ha
    injection ha with ha
    subst ha
    show b ≠ g
    omega
theorem TxtO.append {w : World} {u : Value} {vs us : List Value} {ls ms : List (List UInt8)} (h : TxtO w u vs ls) (k : TxtO w u us ms) : TxtO w u (vs ++ us) (ls ++ ms) := by
  refine ⟨by rw [List.length_append, List.length_append, h.1, k.1], fun j v l h1 h2 => ?_⟩
  by_cases hj : j < vs.length
  · rw [List.getElem?_append_left hj] at h1
    rw [List.getElem?_append_left (by rw [← h.1]; exact hj)] at h2
    exact h.2 j v l h1 h2
  · rw [List.getElem?_append_right (by omega)] at h1
    rw [List.getElem?_append_right (by rw [← h.1]; omega), ← h.1] at h2
    exact k.2 _ v l h1 h2
theorem TxtO.two {w : World} {u : Value} {A1 A2 : Option Addr} {n1 n2 c1 c2 : Nat} {b1 b2 : List UInt8} (h1 : RdB w A1 n1 c1 b1) (h2 : RdB w A2 n2 c2 b2)
    (o1 : 0 < n1 → ∀ g, u.ownBlock = some g → ∀ a, A1 = some a → a.block ≠ g) (o2 : 0 < n2 → ∀ g, u.ownBlock = some g → ∀ a, A2 = some a → a.block ≠ g) : TxtO w u [.slice A1 n1 c1, .slice A2 n2 c2] [b1, b2] := by
  refine ⟨rfl, fun j v l e1 e2 => ?_⟩
  match j, e1, e2 with
  | 0, e1, e2 =>
    simp at e1 e2
    subst e1 e2
    exact ⟨A1, n1, c1, rfl, h1, o1⟩
  | 1, e1, e2 =>
    simp at e1 e2
    subst e1 e2
    exact ⟨A2, n2, c2, rfl, h2, o2⟩
  | j + 2, e1, e2 => simp at e1
end Go.Proofs.Ytmfbgogfefgglaa
