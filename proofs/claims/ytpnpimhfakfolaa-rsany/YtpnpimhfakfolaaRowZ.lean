/-
  Helper words on memory for layer 9: rows of one's own, each in a block of its own, of whatever length (of none, too); rows exchanged; two such matrices side by side. No statement of the seed is proved here.
-/
import Derived.Test.YtpnpimhfakfolaaR91
namespace Go.Proofs.Ytpnpimhfakfolaa
open Go.RowKit
set_option linter.unusedVariables false

/-- Cells that are rows, made behind the world of size N, none of them in the row u, each in a block of its own. -/
def RowsZ (N : Nat) (w : World) (u : Value) (vs : List Value) (k t : Nat) (m : Nat → Nat → GB) : Prop := ∃ (G : Nat → Option Addr) (g cp : Nat → Nat), vs = rm t (fun i => .slice (G i) k (cp i)) ∧
  (∀ i, i < t → k ≤ cp i ∧ cp i ≤ maxLen) ∧
  (0 < k → (∀ i, i < t → G i = some ⟨g i, 0, none⟩ ∧ (∃ cs, Blk w (g i) 5 cs) ∧ (∀ j, j < k → w.cell? ⟨g i, j, none⟩ = some (bcell (m i j).v)) ∧ N ≤ g i ∧ ∀ b, u.ownBlock = some b → g i ≠ b) ∧
    ∀ i, i < t → ∀ i', i' < t → i ≠ i' → g i ≠ g i')
section
variable {N : Nat} {w w' w0 : World} {u u' : Value} {vs : List Value} {k t : Nat} {m : Nat → Nat → GB}
theorem RowsZ.nil (N : Nat) (w : World) (u : Value) (k : Nat) (m : Nat → Nat → GB) : RowsZ N w u [] k 0 m := ⟨fun _ => none, fun _ => 0, fun _ => 0, rfl, fun i h => by omega, fun _ => ⟨fun i h => by omega, fun i h => by omega⟩⟩
theorem RowsZ.kept0 (h : RowsZ N w u vs k t m) (hk : Kept [] w w') : RowsZ N w' u vs k t m := by
  obtain ⟨G, g, cp, e, h1, h2⟩ := h
  refine ⟨G, g, cp, e, h1, fun h0 => ⟨fun i hi => ?_, (h2 h0).2⟩⟩
  obtain ⟨a1, ⟨cs, a3⟩, a4, a5, a6⟩ := (h2 h0).1 i hi
  exact ⟨a1, ⟨cs, a3.kept0 hk⟩, fun j hj => (hk.cell (p := ⟨g i, j, none⟩) a3.lt (by simp)).trans (a4 j hj), a5, a6⟩
theorem RowsZ.app (h : RowsZ N w u vs k t m) (hk : Kept u.ownBlock.toList w w') (hm : Moved w u u') : RowsZ N w' u' vs k t m := by
  obtain ⟨G, g, cp, e, h1, h2⟩ := h
  refine ⟨G, g, cp, e, h1, fun h0 => ⟨fun i hi => ?_, (h2 h0).2⟩⟩
  obtain ⟨a1, ⟨cs, a3⟩, a4, a5, a6⟩ := (h2 h0).1 i hi
  have hin : g i ∉ u.ownBlock.toList := fun hin => a6 (g i) (by simpa using hin) rfl
  refine ⟨a1, ⟨cs, a3.kept hk hin⟩, fun j hj => (hk.cell (p := ⟨g i, j, none⟩) a3.lt hin).trans (a4 j hj), a5, fun b hb => ?_⟩
  rcases hm b hb with h3 | h3
  · exact a6 b h3
  · have := a3.lt
    omega
theorem RowsZ.snoc (h : RowsZ N w0 u vs k t m) (hk : Kept [] w0 w) (hN : N ≤ w0.heap.size) (hu : ∀ b, u.ownBlock = some b → b < w0.heap.size) {A : Option Addr} {c : Nat} (hc1 : k ≤ c) (hc2 : c ≤ maxLen)
    (hnew : 0 < k → ∃ gg, A = some ⟨gg, 0, none⟩ ∧ Own1 w gg k c (m t) ∧ w0.heap.size ≤ gg) : RowsZ N w u (vs ++ [.slice A k c]) k (t + 1) m := by
  have hlt : 0 < k → ∃ g : Nat → Nat, True := fun _ => ⟨fun _ => 0, trivial⟩
  obtain ⟨G, g, cp, rfl, h1, h2⟩ := h
  by_cases h0 : 0 < k
  · obtain ⟨gg, rfl, hO, hgg⟩ := hnew h0
    obtain ⟨h3, h4⟩ := h2 h0
    have hold : ∀ i, i < t → g i < w0.heap.size := fun i hi => by
      obtain ⟨_, ⟨cs, a3⟩, _⟩ := h3 i hi
      exact a3.lt
    refine ⟨fun i => if i < t then G i else some ⟨gg, 0, none⟩, fun i => if i < t then g i else gg, fun i => if i < t then cp i else c, ?_, fun i hi => ?_, fun _ => ⟨fun i hi => ?_, fun i hi i' hi' hne => ?_⟩⟩
    · rw [rm_snoc]
      simp only [Nat.lt_irrefl, if_false]
      congr 1
      exact rm_congr fun i hi => by simp only [if_pos hi]
    · by_cases e : i < t
      · simp only [if_pos e]; exact h1 i e
      · simp only [if_neg e]; exact ⟨hc1, hc2⟩
    · by_cases e : i < t
      · simp only [if_pos e]
        obtain ⟨a1, ⟨cs, a3⟩, a4, a5, a6⟩ := h3 i e
        exact ⟨a1, ⟨cs, a3.kept0 hk⟩, fun j hj => (hk.cell (p := ⟨g i, j, none⟩) a3.lt (by simp)).trans (a4 j hj), a5, a6⟩
      · obtain rfl : i = t := by omega
        simp only [if_neg e]
        exact ⟨trivial, hO.blk, hO.bytes, by omega, fun b hb => by have := hu b hb; omega⟩
    · by_cases e : i < t
      · by_cases e' : i' < t
        · simp only [if_pos e, if_pos e']; exact h4 i e i' e' hne
        · simp only [if_pos e, if_neg e']; have := hold i e; omega
      · by_cases e' : i' < t
        · simp only [if_neg e, if_pos e']; have := hold i' e'; omega
        · omega
  · refine ⟨fun i => if i < t then G i else A, g, fun i => if i < t then cp i else c, ?_, fun i hi => ?_, fun h => absurd h h0⟩
    · rw [rm_snoc]
      simp only [Nat.lt_irrefl, if_false]
      congr 1
      exact rm_congr fun i hi => by simp only [if_pos hi]
    · by_cases e : i < t
      · simp only [if_pos e]; exact h1 i e
      · simp only [if_neg e]; exact ⟨hc1, hc2⟩
theorem RowsZ.length (h : RowsZ N w u vs k t m) : vs.length = t := by
  obtain ⟨G, g, cp, rfl, _⟩ := h
  exact rm_length _ _
end

/-- The matrix m of one's own: b holds slices of rows, each in a block of its own. -/
structure OwZ (w : World) (b n K : Nat) (G : Nat → Option Addr) (g cp : Nat → Nat) (m : Nat → Nat → GB) : Prop where
  bk : ∃ cs, Blk w b 38 cs
  row : ∀ i, i < n → w.cell? ⟨b, i, none⟩ = some (.slice (G i) K (cp i))
  cap : ∀ i, i < n → K ≤ cp i ∧ cp i ≤ maxLen
  own : 0 < K → ∀ i, i < n → G i = some ⟨g i, 0, none⟩
  blk : 0 < K → ∀ i, i < n → ∃ cs, Blk w (g i) 5 cs
  bytes : ∀ i, i < n → ∀ j, j < K → w.cell? ⟨g i, j, none⟩ = some (bcell (m i j).v)
  ne : 0 < K → ∀ i, i < n → g i ≠ b
  apart : 0 < K → ∀ i, i < n → ∀ i', i' < n → i ≠ i' → g i ≠ g i'
theorem OwV.ownB {e : TypeId} {w : World} {A : Option Addr} {n c : Nat} {vs : List Value} (h : OwV e w (.slice A n c) vs) (hn : 0 < n) : ∃ b, A = some ⟨b, 0, none⟩ ∧ ∃ cs, Blk w b e cs := by
  unfold OwV at h
  rcases h.2 with ⟨e1, _⟩ | ⟨g, cap, cur, e1, _, hg, _, _, hcs, ht⟩
  · injection e1 with e1 e2 e3
    omega
  · injection e1 with e1 e2 e3
    exact ⟨g, e1, cur.toList, by unfold Blk; simpa using hg⟩
theorem RowsZ.own {N : Nat} {w : World} {b n c : Nat} {vs : List Value} {k : Nat} {m : Nat → Nat → GB} (h : RowsZ N w (.slice (some ⟨b, 0, none⟩) n c) vs k n m) (ho : OwV 38 w (.slice (some ⟨b, 0, none⟩) n c) vs) (hn : 0 < n) : ∃ G g cp, OwZ w b n k G g cp m ∧ (0 < k → ∀ i, i < n → N ≤ g i) := by
  obtain ⟨b1, e1, hB⟩ := ho.ownB hn
  injection e1 with e1; injection e1 with e1
  subst e1
  have hr := ho.rd
  obtain ⟨G, g, cp, rfl, h1, h2⟩ := h
  obtain ⟨b', o', eb, hb, hc⟩ := hr.at_ hn
  injection eb with eb; injection eb with eb eo; subst eb eo
  refine ⟨G, g, cp, ⟨hB, fun i hi => ?_, h1, fun h0 i hi => ((h2 h0).1 i hi).1, fun h0 i hi => ((h2 h0).1 i hi).2.1, fun i hi j hj => ((h2 (by omega)).1 i hi).2.2.1 j hj, fun h0 i hi => ((h2 h0).1 i hi).2.2.2.2 _ rfl, fun h0 => (h2 h0).2⟩, fun h0 i hi => ((h2 h0).1 i hi).2.2.2.1⟩
  have := hc i (by rw [rm_length]; exact hi)
  rw [Nat.zero_add] at this
  rw [this]
  congr 1
  exact Option.some.inj ((List.getElem?_eq_getElem (by rw [rm_length]; exact hi)).symm.trans (rm_get (f := fun i => Value.slice (G i) k (cp i)) hi))
section
variable {w w' : World} {b n K : Nat} {G : Nat → Option Addr} {g cp : Nat → Nat} {m m' : Nat → Nat → GB} {S : List Nat}
theorem OwZ.lt (h : OwZ w b n K G g cp m) : b < w.heap.size := by obtain ⟨cs, hB⟩ := h.bk; exact hB.lt
theorem OwZ.kept (h : OwZ w b n K G g cp m) (hk : Kept S w w') (hb : b ∉ S) (hg : 0 < K → ∀ i, i < n → g i ∉ S) : OwZ w' b n K G g cp m := by
  refine ⟨?_, fun i hi => (hk.cell (p := ⟨b, i, none⟩) h.lt hb).trans (h.row i hi), h.cap, h.own, fun h0 i hi => ?_, fun i hi j hj => ?_, h.ne, h.apart⟩
  · obtain ⟨cs, hB⟩ := h.bk
    exact ⟨cs, hB.kept hk hb⟩
  · obtain ⟨cs, hB⟩ := h.blk h0 i hi
    exact ⟨cs, hB.kept hk (hg h0 i hi)⟩
  · obtain ⟨cs, hB⟩ := h.blk (by omega) i hi
    exact (hk.cell (p := ⟨g i, j, none⟩) hB.lt (hg (by omega) i hi)).trans (h.bytes i hi j hj)
theorem OwZ.kept0 (h : OwZ w b n K G g cp m) (hk : Kept [] w w') : OwZ w' b n K G g cp m := h.kept hk (by simp) (fun _ _ _ => by simp)
theorem OwZ.congr (h : OwZ w b n K G g cp m) (e : ∀ i, i < n → ∀ j, j < K → m i j = m' i j) : OwZ w b n K G g cp m' := ⟨h.bk, h.row, h.cap, h.own, h.blk, fun i hi j hj => by rw [← e i hi j hj]; exact h.bytes i hi j hj, h.ne, h.apart⟩
theorem OwZ.byte (h : OwZ w b n K G g cp m) {i j : Nat} (hi : i < n) (hj : j < K) : w.cell? ⟨g i, j, none⟩ = some (.int .u8 ((m i j).v.toNat : Int)) := h.bytes i hi j hj
theorem OwZ.rowG (h : OwZ w b n K G g cp m) {i : Nat} (hi : i < n) (h0 : 0 < K) : w.cell? ⟨b, i, none⟩ = some (.slice (some ⟨g i, 0, none⟩) K (cp i)) := by rw [h.row i hi, h.own h0 i hi]
theorem OwZ.frz (h : OwZ w b n K G g cp m) {i : Nat} (hi : i < n) (h0 : 0 < K) (j : Nat) : w.frozen? ⟨g i, j, none⟩ = false := by
  obtain ⟨cs, hB⟩ := h.blk h0 i hi
  exact hB.frz j
theorem OwZ.frzB (h : OwZ w b n K G g cp m) (j : Nat) : w.frozen? ⟨b, j, none⟩ = false := by
  obtain ⟨cs, hB⟩ := h.bk
  exact hB.frz j
theorem OwZ.set (h : OwZ w b n K G g cp m) {i j : Nat} (hi : i < n) (hj : j < K) (v : GB) : OwZ (w.setCell ⟨g i, j, none⟩ (bcell v.v)) b n K G g cp (fun x y => if x = i then (if y = j then v else m i y) else m x y) := by
  have h0 : 0 < K := by omega
  have hK : Kept [g i] w (w.setCell ⟨g i, j, none⟩ (bcell v.v)) := (Kept.refl [g i] w).setCell (.inl (by simp)) _
  obtain ⟨cs, hB⟩ := h.blk h0 i hi
  have hb : b ∉ [g i] := by simpa using fun e => h.ne h0 i hi e.symm
  refine ⟨?_, fun x hx => (hK.cell (p := ⟨b, x, none⟩) h.lt hb).trans (h.row x hx), h.cap, h.own, fun _ x hx => ?_, fun x hx y hy => ?_, h.ne, h.apart⟩
  · obtain ⟨cs, hB⟩ := h.bk
    exact ⟨cs, hB.kept hK hb⟩
  · by_cases e : x = i
    · subst e; exact ⟨_, hB.set _ _⟩
    · obtain ⟨cs', hB'⟩ := h.blk h0 x hx
      exact ⟨_, hB'.set_other _ _ (h.apart h0 x hx i hi e)⟩
  · show _ = some (bcell (if x = i then (if y = j then v else m i y) else m x y).v)
    by_cases e : x = i
    · subst e
      rw [cell_set hB (h.bytes x hx j hj), if_pos rfl]
      by_cases e2 : y = j
      · rw [if_pos e2, if_pos e2]
      · rw [if_neg e2, if_neg e2]; exact h.bytes x hx y hy
    · rw [if_neg e]
      obtain ⟨cs', hB'⟩ := h.blk h0 x hx
      exact (hK.cell (p := ⟨g x, y, none⟩) hB'.lt (by simpa using h.apart h0 x hx i hi e)).trans (h.bytes x hx y hy)
/-- The rows r and q exchanged: q's cell first. -/
theorem OwZ.swap (h : OwZ w b n K G g cp m) {r q : Nat} (hr : r < n) (hq : q < n) :
    OwZ ((w.setCell ⟨b, q, none⟩ (.slice (G r) K (cp r))).setCell ⟨b, r, none⟩ (.slice (G q) K (cp q))) b n K (fun i => G (swi r q i)) (fun i => g (swi r q i)) (fun i => cp (swi r q i)) (fun i => m (swi r q i)) := by
  obtain ⟨cs, hB⟩ := h.bk
  have hB1 := hB.set q (.slice (G r) K (cp r))
  have hK : Kept [b] w ((w.setCell ⟨b, q, none⟩ (.slice (G r) K (cp r))).setCell ⟨b, r, none⟩ (.slice (G q) K (cp q))) := ((Kept.refl [b] w).setCell (.inl (by simp)) _).setCell (.inl (by simp)) _
  have c1 : ∀ x, x < n → (w.setCell ⟨b, q, none⟩ (.slice (G r) K (cp r))).cell? ⟨b, x, none⟩ = if x = q then some (.slice (G r) K (cp r)) else some (.slice (G x) K (cp x)) := fun x hx => by
    rw [cell_set hB (h.row q hq)]
    by_cases e : x = q
    · rw [if_pos e, if_pos e]
    · rw [if_neg e, if_neg e, h.row x hx]
  have cr : (w.setCell ⟨b, q, none⟩ (.slice (G r) K (cp r))).cell? ⟨b, r, none⟩ = some (.slice (G r) K (cp r)) := by
    rw [c1 r hr]; split <;> rfl
  refine ⟨⟨_, hB1.set _ _⟩, fun x hx => ?_, fun x hx => h.cap _ (swi_lt hr hq hx), fun h0 x hx => h.own h0 _ (swi_lt hr hq hx), fun h0 x hx => ?_, fun x hx y hy => ?_, fun h0 x hx => h.ne h0 _ (swi_lt hr hq hx), fun h0 x hx x' hx' hne => h.apart h0 _ (swi_lt hr hq hx) _ (swi_lt hr hq hx') (fun e => hne (by rw [← swi_swi r q x, e, swi_swi]))⟩
  · rw [cell_set hB1 cr]
    by_cases e : x = r
    · rw [if_pos e]
      show _ = some (Value.slice (G (swi r q x)) K (cp (swi r q x)))
      unfold swi
      rw [if_pos e]
    · rw [if_neg e, c1 x hx]
      show _ = some (Value.slice (G (swi r q x)) K (cp (swi r q x)))
      unfold swi
      rw [if_neg e]
      by_cases e2 : x = q
      · rw [if_pos e2, if_pos e2]
      · rw [if_neg e2, if_neg e2]
  · obtain ⟨cs', hB'⟩ := h.blk h0 _ (swi_lt hr hq hx)
    exact ⟨_, hB'.kept hK (by simpa using h.ne h0 _ (swi_lt hr hq hx))⟩
  · have h0 : 0 < K := by omega
    obtain ⟨cs', hB'⟩ := h.blk h0 _ (swi_lt hr hq hx)
    exact (hK.cell (p := ⟨g (swi r q x), y, none⟩) hB'.lt (by simpa using h.ne h0 _ (swi_lt hr hq hx))).trans (h.bytes _ (swi_lt hr hq hx) y hy)
theorem OwZ.rdl (h : OwZ w b n K G g cp m) {c : Nat} (hc : n ≤ c) (hm : c ≤ maxLen) : RdL w (some ⟨b, 0, none⟩) n c (ofm n K m) :=
  ⟨ofm_length _ _ _, hc, hm, fun _ => ⟨b, 0, rfl, h.lt, fun j hj => by
    rw [ofm_length] at hj
    refine ⟨_, _, _, by rw [Nat.zero_add]; exact h.row j hj, ?_⟩
    have e : (ofm n K m)[j]'(by rw [ofm_length]; exact hj) = rm K (fun y => (m j y).v) := Option.some.inj ((List.getElem?_eq_getElem (by rw [ofm_length]; exact hj)).symm.trans (ofm_get hj))
    rw [e]
    refine ⟨rm_length _ _, (h.cap j hj).1, (h.cap j hj).2, fun h0 => ⟨g j, 0, h.own h0 j hj, fun y hy => ?_⟩⟩
    rw [rm_length] at hy
    rw [Nat.zero_add, h.bytes j hj y hy]
    congr 2
    exact (Option.some.inj ((List.getElem?_eq_getElem (by rw [rm_length]; exact hy)).symm.trans (rm_get (f := fun y => (m j y).v) hy))).symm⟩⟩
end

/-- Two matrices of one's own, side by side, made behind the world of size N0. -/
structure Duo (N0 : Nat) (w : World) (b1 b2 k N : Nat) (G1 : Nat → Option Addr) (g1 p1 : Nat → Nat) (m : Nat → Nat → GB) (G2 : Nat → Option Addr) (g2 p2 : Nat → Nat) (l : Nat → Nat → GB) : Prop where
  A : OwZ w b1 k k G1 g1 p1 m
  B : OwZ w b2 k N G2 g2 p2 l
  bb : b1 ≠ b2
  n1 : N0 ≤ b1
  n2 : N0 ≤ b2
  n3 : 0 < k → ∀ i, i < k → N0 ≤ g1 i
  n4 : 0 < N → ∀ i, i < k → N0 ≤ g2 i
  x1 : 0 < k → ∀ i, i < k → g1 i ≠ b2
  x2 : 0 < N → ∀ i, i < k → g2 i ≠ b1
  x3 : 0 < N → ∀ i, i < k → ∀ i', i' < k → g1 i ≠ g2 i'
section
variable {N0 : Nat} {w w' : World} {b1 b2 k N : Nat} {G1 : Nat → Option Addr} {g1 p1 : Nat → Nat} {m m' : Nat → Nat → GB} {G2 : Nat → Option Addr} {g2 p2 : Nat → Nat} {l l' : Nat → Nat → GB}
theorem Duo.kept0 (h : Duo N0 w b1 b2 k N G1 g1 p1 m G2 g2 p2 l) (hk : Kept [] w w') : Duo N0 w' b1 b2 k N G1 g1 p1 m G2 g2 p2 l := ⟨h.A.kept0 hk, h.B.kept0 hk, h.bb, h.n1, h.n2, h.n3, h.n4, h.x1, h.x2, h.x3⟩
theorem Duo.congr (h : Duo N0 w b1 b2 k N G1 g1 p1 m G2 g2 p2 l) (e1 : ∀ i, i < k → ∀ j, j < k → m i j = m' i j) (e2 : ∀ i, i < k → ∀ j, j < N → l i j = l' i j) : Duo N0 w b1 b2 k N G1 g1 p1 m' G2 g2 p2 l' := ⟨h.A.congr e1, h.B.congr e2, h.bb, h.n1, h.n2, h.n3, h.n4, h.x1, h.x2, h.x3⟩
theorem Duo.setA (h : Duo N0 w b1 b2 k N G1 g1 p1 m G2 g2 p2 l) {i j : Nat} (hi : i < k) (hj : j < k) (v : GB) : Duo N0 (w.setCell ⟨g1 i, j, none⟩ (bcell v.v)) b1 b2 k N G1 g1 p1 (fun x y => if x = i then (if y = j then v else m i y) else m x y) G2 g2 p2 l := by
  have hK : Kept [g1 i] w (w.setCell ⟨g1 i, j, none⟩ (bcell v.v)) := (Kept.refl [g1 i] w).setCell (.inl (by simp)) _
  exact ⟨h.A.set hi hj v, h.B.kept hK (by simpa using fun e => h.x1 (by omega) i hi e.symm) (fun h0 x hx => by simpa using fun e => h.x3 h0 i hi x hx e.symm), h.bb, h.n1, h.n2, h.n3, h.n4, h.x1, h.x2, h.x3⟩
theorem Duo.setB (h : Duo N0 w b1 b2 k N G1 g1 p1 m G2 g2 p2 l) {i j : Nat} (hi : i < k) (hj : j < N) (v : GB) : Duo N0 (w.setCell ⟨g2 i, j, none⟩ (bcell v.v)) b1 b2 k N G1 g1 p1 m G2 g2 p2 (fun x y => if x = i then (if y = j then v else l i y) else l x y) := by
  have hK : Kept [g2 i] w (w.setCell ⟨g2 i, j, none⟩ (bcell v.v)) := (Kept.refl [g2 i] w).setCell (.inl (by simp)) _
  have h0 : 0 < N := by omega
  exact ⟨h.A.kept hK (by simpa using fun e => h.x2 h0 i hi e.symm) (fun _ x hx => by simpa using fun e => h.x3 h0 x hx i hi e), h.B.set hi hj v, h.bb, h.n1, h.n2, h.n3, h.n4, h.x1, h.x2, h.x3⟩
theorem Duo.swapA (h : Duo N0 w b1 b2 k N G1 g1 p1 m G2 g2 p2 l) {r q : Nat} (hr : r < k) (hq : q < k) :
    Duo N0 ((w.setCell ⟨b1, q, none⟩ (.slice (G1 r) k (p1 r))).setCell ⟨b1, r, none⟩ (.slice (G1 q) k (p1 q))) b1 b2 k N (fun i => G1 (swi r q i)) (fun i => g1 (swi r q i)) (fun i => p1 (swi r q i)) (fun i => m (swi r q i)) G2 g2 p2 l := by
  have hK : Kept [b1] w ((w.setCell ⟨b1, q, none⟩ (.slice (G1 r) k (p1 r))).setCell ⟨b1, r, none⟩ (.slice (G1 q) k (p1 q))) := ((Kept.refl [b1] w).setCell (.inl (by simp)) _).setCell (.inl (by simp)) _
  exact ⟨h.A.swap hr hq, h.B.kept hK (by simpa using h.bb.symm) (fun h0 x hx => by simpa using h.x2 h0 x hx), h.bb, h.n1, h.n2, fun h0 x hx => h.n3 h0 _ (swi_lt hr hq hx), h.n4, fun h0 x hx => h.x1 h0 _ (swi_lt hr hq hx), h.x2, fun h0 x hx => h.x3 h0 _ (swi_lt hr hq hx)⟩
theorem Duo.swapB (h : Duo N0 w b1 b2 k N G1 g1 p1 m G2 g2 p2 l) {r q : Nat} (hr : r < k) (hq : q < k) :
    Duo N0 ((w.setCell ⟨b2, q, none⟩ (.slice (G2 r) N (p2 r))).setCell ⟨b2, r, none⟩ (.slice (G2 q) N (p2 q))) b1 b2 k N G1 g1 p1 m (fun i => G2 (swi r q i)) (fun i => g2 (swi r q i)) (fun i => p2 (swi r q i)) (fun i => l (swi r q i)) := by
  have hK : Kept [b2] w ((w.setCell ⟨b2, q, none⟩ (.slice (G2 r) N (p2 r))).setCell ⟨b2, r, none⟩ (.slice (G2 q) N (p2 q))) := ((Kept.refl [b2] w).setCell (.inl (by simp)) _).setCell (.inl (by simp)) _
  exact ⟨h.A.kept hK (by simpa using h.bb) (fun h0 x hx => by simpa using h.x1 h0 x hx), h.B.swap hr hq, h.bb, h.n1, h.n2, h.n3, fun h0 x hx => h.n4 h0 _ (swi_lt hr hq hx), h.x1, fun h0 x hx => h.x2 h0 _ (swi_lt hr hq hx), fun h0 x hx x' hx' => h.x3 h0 x hx _ (swi_lt hr hq hx')⟩
end
end Go.Proofs.Ytpnpimhfakfolaa
