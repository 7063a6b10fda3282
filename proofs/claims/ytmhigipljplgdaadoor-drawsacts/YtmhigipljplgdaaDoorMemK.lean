/-
  Helper words on memory, going on: an append leaves the row's own first cells as they were, wherever the new row lies. No statement of the seed is proved here.
-/
import Derived.Test.YtmhigipljplgdaaDoorMemV
namespace Go.Proofs.YtmhigipljplgdaaDoor
open Go.RowKit

section
variable {P : Program} {w : World}
theorem append_keeps (t ty e : TypeId) (i : TypeInfo) (z : Value) (bytes : Nat) (ht : P.underlying t = some (.slice e)) (hi : P.info? e = some i) (hz : i.zero = some z)
    (hsize : i.size = 1) (hby : i.bytes = bytes) {v : Value} {xs : List Value} (hown : OwV e w v xs)
    {A : Option Addr} {m c : Nat} {news : List Value} (hr : RdV w A m c news) (h1 : ∀ u ∈ news, u.oneCell' = true) (h63 : xs.length + m ≤ maxLen) (hbytes : (xs.length + m) * bytes ≤ 140737488355328)
    {v' : Value} {w' : World} (hrun : (Builtin.append_ #[t, t] ty #[v, .slice A m c]).run P w = .ok v' w') :
    ∀ g j u, v.ownBlock = some g → j < xs.length → w.cell? ⟨g, j, none⟩ = some u → w'.cell? ⟨g, j, none⟩ = some u := by
  subst hby
  intro g j u hg hj hu
  rcases A with _ | a
  · have hm : m = 0 := by
      rcases Nat.eq_zero_or_pos m with h0 | h0
      · exact h0
      · obtain ⟨b, off, e, _⟩ := hr.cells h0
        cases e
    subst hm
    have hw : w' = w := by
      rcases hown.2 with ⟨rfl, _⟩ | ⟨g, cap, cur, rfl, _, _, hnc, _⟩
      · simp [Builtin.append_, run_underlying ht, sizeOf, typeInfo, hi, Builtin.lenOf, Builtin.firstCells] at hrun
        exact hrun.2.symm
      · simp [Builtin.append_, run_underlying ht, sizeOf, typeInfo, hi, Builtin.lenOf, Builtin.firstCells, hnc, storeCells] at hrun
        exact hrun.2.symm
    rw [hw]; exact hu
  · have hl : news.length = m * i.size := by rw [hr.len, hsize]; omega
    rcases hown.2 with ⟨rfl, h0⟩ | ⟨g2, cap, cur, rfl, _, hg2, hnc, hcm, hcs, htake⟩
    · omega
    · have hgg : g2 = g := by simpa [Value.ownBlock] using hg
      subst hgg
      by_cases hroom : xs.length + m ≤ cap
      · have hfit : xs.length * i.size + news.length ≤ cur.size := by rw [hl, hcs, hsize]; omega
        have hr2 := run_append_room (P := P) w t ty e i ht hi g2 xs.length cap cur hg2 a m c news hl hr.news h1 hroom hfit
        rw [hr2] at hrun
        injection hrun with e1 e2
        rw [← e2, cell_of_row _ _ _ _ _ _ (setRow_heap w g2 cur _ e _ hg2)]
        rw [cell_of_row w g2 j cur e (0, 0) hg2] at hu
        have hjc : j < cur.size := (Array.getElem?_eq_some_iff.1 hu).1
        simp only [List.getElem?_toArray]
        rw [List.getElem?_append_left (by simp only [List.length_append, List.length_take, Array.length_toList]; rw [hsize]; omega)]
        first
          | rw [List.getElem?_append_left (by simp only [List.length_take, Array.length_toList]; rw [hsize]; omega)]
          | skip
        rw [List.getElem?_take, if_pos (by rw [hsize]; omega)]
        simpa using hu
      · have holds : ∀ j u, xs[j]? = some u → w.cell? ((⟨g2, 0, none⟩ : Addr).add j) = some u := World.ownsRow.cells (g := g2) hown rfl
        have hr2 := run_append_grow (P := P) w t ty e i z ht hi hz ⟨g2, 0, none⟩ xs.length cap xs (by rw [hsize]; omega) holds a m c news hl hr.news (by omega) (by simp only [maxLen] at h63; omega) (growslice_fits (by omega) hbytes)
        rw [hr2] at hrun
        injection hrun with e1 e2
        rw [← e2]
        have hlt : g2 < w.heap.size := (Array.getElem?_eq_some_iff.1 hg2).1
        exact (((Kept.refl [] w).drew.alloc _).cell (p := ⟨g2, j, none⟩) hlt (by simp)).trans hu
/-- The same as a step of a region whose order is left open. -/
theorem step_append_keep {ops : Array Oper} {o : Oper} {a : Act} {K : Act → World → Prop} {Q : Exit → Act → World → Prop} {E : Prop} (hgd : o.guard = none) (s x : Operand) (t : TypeId)
    (ho : o.op = .call { callee := .builtin .append, args := #[s, x], argTypes := #[t, t] })
    (e : TypeId) (i : TypeInfo) (z : Value) (bytes : Nat) (ht : P.underlying t = some (.slice e)) (hi : P.info? e = some i) (hz : i.zero = some z)
    (hsize : i.size = 1) (hby : i.bytes = bytes) (hzs : z.cells.size = 1)
    (v : Value) (xs : List Value) (hs : a.eval s = v) (hown : OwV e w v xs)
    (A : Option Addr) (m c : Nat) (news : List Value) (hx : a.eval x = .slice A m c) (hr : RdV w A m c news) (h1 : ∀ u ∈ news, u.oneCell' = true)
    (h63 : xs.length + m ≤ maxLen) (hbytes : (xs.length + m) * bytes ≤ 140737488355328)
    (h : ∀ v' w', OwV e w' v' (xs ++ news) → Kept v.ownBlock.toList w w' → Moved w v v' → (∀ g j u, v.ownBlock = some g → j < xs.length → w.cell? ⟨g, j, none⟩ = some u → w'.cell? ⟨g, j, none⟩ = some u) → K (a.put o.dst v') w') :
    if Region.wanted o (yielded ops a.tmps) = true then Oper.wp P o a w K Q else E := by
  have hw : Region.wanted o (yielded ops a.tmps) = true := by simp [Region.wanted, hgd]
  rw [if_pos hw]
  obtain ⟨v', w', hrun, h2, h3, h4⟩ := run_append_vals (P := P) (w := w) t o.type e i z bytes ht hi hz hsize hby hzs hown hr h1 h63 hbytes
  have h5 := append_keeps t o.type e i z bytes ht hi hz hsize hby hown hr h1 h63 hbytes hrun
  unfold Oper.wp execOp
  simp only [ho, resolve, invoke, builtin, Sem.run_bind, Sem.run_pure, Result.andThen_ok, List.map_toArray, List.map_cons, List.map_nil, hs, hx, hrun]
  exact h v' w' h2 h3 h4 h5
end
end Go.Proofs.YtmhigipljplgdaaDoor
