/-
  Helper words on memory, going on: slices of texts ('RdL'). No statement of the seed is proved here.
-/
import Derived.Test.YtmhigipljplgdaaDoorMem
namespace Go.Proofs.YtmhigipljplgdaaDoor
open Go.RowKit
set_option linter.unusedVariables false

theorem RdB.keptNew {w w' : World} {A : Option Addr} {n c : Nat} {bs : List UInt8} {S : List Nat} (h : RdB w A n c bs) (hk : Kept S w w') (hS : ∀ k, k ∈ S → w.heap.size ≤ k) : RdB w' A n c bs :=
  h.keep fun b _ _ hb => hk.block b hb (fun hm => by have := hS b hm; omega)
/-- A slice of byte slices reads as these texts. -/
structure RdL (w : World) (A : Option Addr) (n c : Nat) (ls : List (List UInt8)) : Prop where
  len : ls.length = n
  cap : n ≤ c
  most : c ≤ maxLen
  cells : 0 < n → ∃ b off, A = some ⟨b, off, none⟩ ∧ b < w.heap.size ∧ ∀ j, (h : j < ls.length) → ∃ Aj nj cj, w.cell? ⟨b, off + j, none⟩ = some (.slice Aj nj cj) ∧ RdB w Aj nj cj ls[j]
theorem RdL.keptNew {w w' : World} {A : Option Addr} {n c : Nat} {ls : List (List UInt8)} {S : List Nat} (h : RdL w A n c ls) (hk : Kept S w w') (hS : ∀ k, k ∈ S → w.heap.size ≤ k) : RdL w' A n c ls :=
  ⟨h.len, h.cap, h.most, fun hn => by
    obtain ⟨b, off, e, hb, hc⟩ := h.cells hn
    refine ⟨b, off, e, Nat.lt_of_lt_of_le hb hk.size, fun j hj => ?_⟩
    obtain ⟨Aj, nj, cj, h1, h2⟩ := hc j hj
    exact ⟨Aj, nj, cj, (hk.cell (p := ⟨b, off + j, none⟩) hb (fun hm => by have := hS b hm; omega)).trans h1, h2.keptNew hk hS⟩⟩
theorem RdL.kept0 {w w' : World} {A : Option Addr} {n c : Nat} {ls : List (List UInt8)} (h : RdL w A n c ls) (hk : Kept [] w w') : RdL w' A n c ls := h.keptNew hk (by simp)
theorem RdL.at_ {w : World} {A : Option Addr} {n c : Nat} {ls : List (List UInt8)} (h : RdL w A n c ls) {k : Nat} (hk : k < n) : ∃ b off Ak nk ck l, A = some ⟨b, off, none⟩ ∧ b < w.heap.size ∧ w.cell? ⟨b, off + k, none⟩ = some (.slice Ak nk ck) ∧ ls[k]? = some l ∧ RdB w Ak nk ck l := by
  obtain ⟨b, off, e, hb, hc⟩ := h.cells (by omega)
  have hl := h.len
  obtain ⟨Ak, nk, ck, h1, h2⟩ := hc k (by omega)
  exact ⟨b, off, Ak, nk, ck, _, e, hb, h1, List.getElem?_eq_getElem (by omega), h2⟩
theorem RdL.nil (w : World) : RdL w none 0 0 [] := ⟨rfl, Nat.le_refl _, by simp [maxLen], fun h => absurd h (by omega)⟩
theorem RdL.one {w : World} {A : Option Addr} {n c : Nat} {bs : List UInt8} (e : TypeId) (h : RdB w A n c bs) : RdL (w.alloc (.cells #[.slice A n c] e)) (some ⟨w.heap.size, 0, none⟩) 1 1 [bs] := by
  refine ⟨rfl, Nat.le_refl _, by simp [maxLen], fun _ => ⟨w.heap.size, 0, rfl, by simp, fun j hj => ?_⟩⟩
  have hj0 : j = 0 := by simpa using hj
  subst hj0
  refine ⟨A, n, c, ?_, h.alloc _⟩
  rw [cell_of_row _ _ _ _ _ _ (heap_alloc_new w _)]
  rfl
theorem RdL.two {w : World} {A1 A2 : Option Addr} {n1 n2 c1 c2 : Nat} {b1 b2 : List UInt8} (e : TypeId) (h1 : RdB w A1 n1 c1 b1) (h2 : RdB w A2 n2 c2 b2) :
    RdL (w.alloc (.cells #[.slice A1 n1 c1, .slice A2 n2 c2] e)) (some ⟨w.heap.size, 0, none⟩) 2 2 [b1, b2] := by
  refine ⟨rfl, Nat.le_refl _, by simp [maxLen], fun _ => ⟨w.heap.size, 0, rfl, by simp, fun j hj => ?_⟩⟩
  have hj3 : j = 0 ∨ j = 1 := by simp at hj; omega
  rcases hj3 with rfl | rfl
  · exact ⟨A1, n1, c1, by rw [cell_of_row _ _ _ _ _ _ (heap_alloc_new w _)]; rfl, h1.alloc _⟩
  · exact ⟨A2, n2, c2, by rw [cell_of_row _ _ _ _ _ _ (heap_alloc_new w _)]; rfl, h2.alloc _⟩
end Go.Proofs.YtmhigipljplgdaaDoor
