/-
  Helper words on memory for layer 8, going on: rows of one's own, each in a block of its own. No statement of the seed is proved here.
-/
import Derived.Test.YtmfbgogfefgglaaMtM
import Derived.Test.YtmfbgogfefgglaaTxtO
namespace Go.Proofs.Ytmfbgogfefgglaa
open Go.RowKit
set_option linter.unusedVariables false

theorem OwB.own {e : TypeId} {w : World} {A : Option Addr} {n c : Nat} {bs : List UInt8} (h : OwB e w (.slice A n c) bs) (hn : 0 < n) : ∃ g, A = some ⟨g, 0, none⟩ ∧ ∃ cs, Blk w g e cs := by
  unfold OwB at h
  rcases h.2 with ⟨e1, _⟩ | ⟨g, cap, cur, e1, _, hg, _, _, hcs, ht⟩
  · injection e1 with e1 e2 e3
    omega
  · injection e1 with e1 e2 e3
    exact ⟨g, e1, cur.toList, by unfold Blk; simpa using hg⟩
theorem OwV.own {e : TypeId} {w : World} {A : Option Addr} {n c : Nat} {vs : List Value} (h : OwV e w (.slice A n c) vs) (hn : 0 < n) : ∃ b, A = some ⟨b, 0, none⟩ ∧ b < w.heap.size := by
  unfold OwV at h
  rcases h.2 with ⟨e1, _⟩ | ⟨g, cap, cur, e1, _, hg, _, _, hcs, ht⟩
  · injection e1 with e1 e2 e3
    omega
  · injection e1 with e1 e2 e3
    exact ⟨g, e1, (Array.getElem?_eq_some_iff.1 hg).1⟩

/-- Cells that are rows of a matrix, made behind the world of size N, none of them in the row u, each in a block of its own. -/
def RowsO (N : Nat) (w : World) (u : Value) (vs : List Value) (k t : Nat) (m : Nat → Nat → GB) : Prop := ∃ g cp : Nat → Nat, vs = rm t (fun i => .slice (some ⟨g i, 0, none⟩) k (cp i)) ∧
  (∀ i, i < t → k ≤ cp i ∧ cp i ≤ maxLen ∧ (∃ cs, Blk w (g i) 5 cs) ∧ (∀ j, j < k → w.cell? ⟨g i, j, none⟩ = some (bcell (m i j).v)) ∧ N ≤ g i ∧ ∀ b, u.ownBlock = some b → g i ≠ b) ∧
  ∀ i, i < t → ∀ i', i' < t → i ≠ i' → g i ≠ g i'
section
variable {N : Nat} {w w' : World} {u u' : Value} {vs : List Value} {k t : Nat} {m : Nat → Nat → GB}
theorem RowsO.nil (N : Nat) (w : World) (u : Value) (k : Nat) (m : Nat → Nat → GB) : RowsO N w u [] k 0 m := ⟨fun _ => 0, fun _ => 0, rfl, fun i h => by omega, fun i h => by omega⟩
theorem RowsO.kept0 (h : RowsO N w u vs k t m) (hk : Kept [] w w') : RowsO N w' u vs k t m := by
  obtain ⟨g, cp, e, h1, h2⟩ := h
  refine ⟨g, cp, e, fun i hi => ?_, h2⟩
  obtain ⟨a1, a2, ⟨cs, a3⟩, a4, a5, a6⟩ := h1 i hi
  exact ⟨a1, a2, ⟨cs, a3.kept0 hk⟩, fun j hj => (hk.cell (p := ⟨g i, j, none⟩) a3.lt (by simp)).trans (a4 j hj), a5, a6⟩
theorem RowsO.app (h : RowsO N w u vs k t m) (hk : Kept u.ownBlock.toList w w') (hm : Moved w u u') : RowsO N w' u' vs k t m := by
  obtain ⟨g, cp, e, h1, h2⟩ := h
  refine ⟨g, cp, e, fun i hi => ?_, h2⟩
  obtain ⟨a1, a2, ⟨cs, a3⟩, a4, a5, a6⟩ := h1 i hi
  have hin : g i ∉ u.ownBlock.toList := fun hin => a6 (g i) (by simpa using hin) rfl
  refine ⟨a1, a2, ⟨cs, a3.kept hk hin⟩, fun j hj => (hk.cell (p := ⟨g i, j, none⟩) a3.lt hin).trans (a4 j hj), a5, fun b hb => ?_⟩
  rcases hm b hb with h3 | h3
  · exact a6 b h3
  · have := a3.lt
    omega
theorem RowsO.snoc (h : RowsO N w u vs k t m) {A : Option Addr} {c : Nat} (ho : OwB 5 w (.slice A k c) (rm k fun j => (m t j).v)) (hk : 0 < k) (w0 : World) (hw : w0.heap.size ≤ w.heap.size) (hN : N ≤ w0.heap.size) (hv : ∀ i, i < t → ∀ g cp, vs[i]? = some (.slice (some ⟨g, 0, none⟩) k cp) → g < w0.heap.size)
    (hu : ∀ g, u.ownBlock = some g → g < w0.heap.size) (hf : ∀ g, (Value.slice A k c).ownBlock = some g → w0.heap.size ≤ g) : RowsO N w u (vs ++ [.slice A k c]) k (t + 1) m := by
  obtain ⟨g, cp, rfl, h1, h2⟩ := h
  obtain ⟨b, rfl, hB⟩ := ho.own hk
  have hr := ho.rd
  have hfb := hf b rfl
  have hold : ∀ i, i < t → g i < w0.heap.size := fun i hi => hv i hi (g i) (cp i) (rm_get hi)
  refine ⟨fun i => if i < t then g i else b, fun i => if i < t then cp i else c, ?_, fun i hi => ?_, fun i hi i' hi' hne => ?_⟩
  · rw [rm_snoc]
    simp only [Nat.lt_irrefl, if_false]
    congr 1
    exact rm_congr fun i hi => by simp only [if_pos hi]
  · by_cases e : i < t
    · simp only [if_pos e]
      exact h1 i e
    · obtain rfl : i = t := by omega
      simp only [if_neg e]
      refine ⟨hr.cap, hr.most, hB, fun j hj => ?_, by omega, fun x hx => ?_⟩
      · obtain ⟨b', o', eb, _, hc⟩ := hr.at_ hk
        injection eb with eb; injection eb with eb eo; subst eb eo
        have := hc j (by rw [rm_length]; exact hj)
        rw [Nat.zero_add] at this
        rw [this]
        congr 2
        exact Option.some.inj ((List.getElem?_eq_getElem (by rw [rm_length]; exact hj)).symm.trans (rm_get (f := fun j => (m i j).v) hj))
      · have := hu x hx
        omega
  · by_cases e : i < t
    · by_cases e' : i' < t
      · simp only [if_pos e, if_pos e']
        exact h2 i e i' e' hne
      · simp only [if_pos e, if_neg e']
        have := hold i e
        omega
    · by_cases e' : i' < t
      · simp only [if_neg e, if_pos e']
        have := hold i' e'
        omega
      · omega
theorem RowsO.lt (h : RowsO N w u vs k t m) : ∀ i, i < t → ∀ g cp, vs[i]? = some (.slice (some ⟨g, 0, none⟩) k cp) → g < w.heap.size := by
  obtain ⟨g, cp, rfl, h1, _⟩ := h
  intro i hi g' cp' e
  rw [rm_get hi] at e
  injection e with e; injection e with e; injection e with e; injection e with e
  subst e
  obtain ⟨_, _, ⟨cs, a3⟩, _⟩ := h1 i hi
  exact a3.lt
theorem RowsO.length (h : RowsO N w u vs k t m) : vs.length = t := by
  obtain ⟨g, cp, rfl, _⟩ := h
  exact rm_length _ _
end

/-- The matrix m of one's own: b holds slices of rows, each in a block of its own. -/
structure OwR (w : World) (b n k : Nat) (g cp : Nat → Nat) (m : Nat → Nat → GB) : Prop where
  lt : b < w.heap.size
  row : ∀ i, i < n → w.cell? ⟨b, i, none⟩ = some (.slice (some ⟨g i, 0, none⟩) k (cp i))
  cap : ∀ i, i < n → k ≤ cp i ∧ cp i ≤ maxLen
  blk : ∀ i, i < n → ∃ cs, Blk w (g i) 5 cs
  bytes : ∀ i, i < n → ∀ j, j < k → w.cell? ⟨g i, j, none⟩ = some (bcell (m i j).v)
  ne : ∀ i, i < n → g i ≠ b
  apart : ∀ i, i < n → ∀ i', i' < n → i ≠ i' → g i ≠ g i'
section
variable {w w' : World} {b n k : Nat} {g cp : Nat → Nat} {m m' : Nat → Nat → GB}
theorem OwR.kept0 (h : OwR w b n k g cp m) (hk : Kept [] w w') : OwR w' b n k g cp m := by
  refine ⟨Nat.lt_of_lt_of_le h.lt hk.size, fun i hi => (hk.cell (p := ⟨b, i, none⟩) h.lt (by simp)).trans (h.row i hi), h.cap, fun i hi => ?_, fun i hi j hj => ?_, h.ne, h.apart⟩
  · obtain ⟨cs, hB⟩ := h.blk i hi
    exact ⟨cs, hB.kept0 hk⟩
  · obtain ⟨cs, hB⟩ := h.blk i hi
    exact (hk.cell (p := ⟨g i, j, none⟩) hB.lt (by simp)).trans (h.bytes i hi j hj)
theorem OwR.congr (h : OwR w b n k g cp m) (e : ∀ i, i < n → ∀ j, j < k → m i j = m' i j) : OwR w b n k g cp m' := ⟨h.lt, h.row, h.cap, h.blk, fun i hi j hj => by rw [← e i hi j hj]; exact h.bytes i hi j hj, h.ne, h.apart⟩
theorem OwR.byte (h : OwR w b n k g cp m) {i j : Nat} (hi : i < n) (hj : j < k) : w.cell? ⟨g i, j, none⟩ = some (.int .u8 ((m i j).v.toNat : Int)) := h.bytes i hi j hj
theorem OwR.frz (h : OwR w b n k g cp m) {i : Nat} (hi : i < n) (j : Nat) : w.frozen? ⟨g i, j, none⟩ = false := by
  obtain ⟨cs, hB⟩ := h.blk i hi
  exact hB.frz j
theorem OwR.set (h : OwR w b n k g cp m) {i j : Nat} (hi : i < n) (hj : j < k) (v : GB) : OwR (w.setCell ⟨g i, j, none⟩ (bcell v.v)) b n k g cp (fun x y => if x = i then (if y = j then v else m i y) else m x y) := by
  have hK : Kept [g i] w (w.setCell ⟨g i, j, none⟩ (bcell v.v)) := (Kept.refl [g i] w).setCell (.inl (by simp)) _
  obtain ⟨cs, hB⟩ := h.blk i hi
  have hb : b ∉ [g i] := by simpa using fun e => h.ne i hi e.symm
  refine ⟨Nat.lt_of_lt_of_le h.lt hK.size, fun x hx => (hK.cell (p := ⟨b, x, none⟩) h.lt hb).trans (h.row x hx), h.cap, fun x hx => ?_, fun x hx y hy => ?_, h.ne, h.apart⟩
  · by_cases e : x = i
    · subst e; exact ⟨_, hB.set _ _⟩
    · obtain ⟨cs', hB'⟩ := h.blk x hx
      exact ⟨_, hB'.set_other _ _ (h.apart x hx i hi e)⟩
  · show _ = some (bcell (if x = i then (if y = j then v else m i y) else m x y).v)
    by_cases e : x = i
    · subst e
      rw [cell_set hB (h.bytes x hx j hj), if_pos rfl]
      by_cases e2 : y = j
      · rw [if_pos e2, if_pos e2]
      · rw [if_neg e2, if_neg e2]; exact h.bytes x hx y hy
    · rw [if_neg e]
      obtain ⟨cs', hB'⟩ := h.blk x hx
      exact (hK.cell (p := ⟨g x, y, none⟩) hB'.lt (by simpa using h.apart x hx i hi e)).trans (h.bytes x hx y hy)
end
theorem RowsO.own {N : Nat} {w : World} {b c : Nat} {vs : List Value} {k n : Nat} {m : Nat → Nat → GB} (h : RowsO N w (.slice (some ⟨b, 0, none⟩) n c) vs k n m) (hr : RdV w (some ⟨b, 0, none⟩) n c vs) (hn : 0 < n) : ∃ g cp, OwR w b n k g cp m ∧ ∀ i, i < n → N ≤ g i := by
  obtain ⟨g, cp, rfl, h1, h2⟩ := h
  obtain ⟨b', o', eb, hb, hc⟩ := hr.at_ hn
  injection eb with eb; injection eb with eb eo; subst eb eo
  refine ⟨g, cp, ⟨hb, fun i hi => ?_, fun i hi => ⟨(h1 i hi).1, (h1 i hi).2.1⟩, fun i hi => (h1 i hi).2.2.1, fun i hi => (h1 i hi).2.2.2.1, fun i hi => (h1 i hi).2.2.2.2.2 b rfl, h2⟩, fun i hi => (h1 i hi).2.2.2.2.1⟩
  have := hc i (by rw [rm_length]; exact hi)
  rw [Nat.zero_add] at this
  rw [this]
  congr 1
  exact Option.some.inj ((List.getElem?_eq_getElem (by rw [rm_length]; exact hi)).symm.trans (rm_get (f := fun i => Value.slice (some ⟨g i, 0, none⟩) k (cp i)) hi))
end Go.Proofs.Ytmfbgogfefgglaa
