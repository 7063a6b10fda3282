/-
  Helper words on memory, going on: slices whose elements are one cell each, as lists of cells ('RdV'), rows of the call's own ('OwV'), append. No statement of the seed is proved here.
-/
import Derived.Test.YtibcjbelcplpjaaDoorMem
import Derived.Deep.RegionLaw
namespace Go.Proofs.YtibcjbelcplpjaaDoor
open Go.RowKit

/-- The slice '.slice A n c' reads as the cells vs. -/
structure RdV (w : World) (A : Option Addr) (n c : Nat) (vs : List Value) : Prop where
  len : vs.length = n
  cap : n ≤ c
  most : c ≤ maxLen
  cells : 0 < n → ∃ b off, A = some ⟨b, off, none⟩ ∧ ∀ j, (h : j < vs.length) → w.cell? ⟨b, off + j, none⟩ = some vs[j]
section
variable {w w' : World} {A : Option Addr} {n c : Nat} {vs : List Value} {S : List Nat}
theorem RdV.nil (w : World) : RdV w none 0 0 [] := ⟨rfl, Nat.le_refl _, by simp [maxLen], fun h => absurd h (by omega)⟩
theorem RdV.at_ (h : RdV w A n c vs) (hn : 0 < n) : ∃ b off, A = some ⟨b, off, none⟩ ∧ b < w.heap.size ∧ ∀ j, (hj : j < vs.length) → w.cell? ⟨b, off + j, none⟩ = some vs[j] := by
  obtain ⟨b, off, e, hc⟩ := h.cells hn
  have hl := h.len
  have h0 := hc 0 (by omega)
  exact ⟨b, off, e, World.block_lt_of_cell? w _ h0, hc⟩
theorem RdV.keep (h : RdV w A n c vs) (hk : ∀ b off, A = some ⟨b, off, none⟩ → b < w.heap.size → w'.heap[b]? = w.heap[b]?) : RdV w' A n c vs :=
  ⟨h.len, h.cap, h.most, fun hn => by
    obtain ⟨b, off, e, hb, hc⟩ := h.at_ hn
    exact ⟨b, off, e, fun j hj => (World.cell?_of_block (w := w) (hk b off e hb)).trans (hc j hj)⟩⟩
theorem RdV.kept (h : RdV w A n c vs) (hk : Kept S w w') (hS : Off A S) : RdV w' A n c vs :=
  h.keep fun b _ e hb => hk.block b hb (hS _ e)
theorem RdV.kept0 (h : RdV w A n c vs) (hk : Kept [] w w') : RdV w' A n c vs := h.kept hk (fun _ _ => by simp)
theorem RdV.keptNew (h : RdV w A n c vs) (hk : Kept S w w') (hS : ∀ k, k ∈ S → w.heap.size ≤ k) : RdV w' A n c vs :=
  h.keep fun b _ _ hb => hk.block b hb (fun hm => by have := hS b hm; omega)
theorem RdV.one (w : World) (e : TypeId) (v : Value) : RdV (w.alloc (.cells #[v] e)) (some ⟨w.heap.size, 0, none⟩) 1 1 [v] := by
  refine ⟨rfl, Nat.le_refl _, by simp [maxLen], fun _ => ⟨w.heap.size, 0, rfl, fun j hj => ?_⟩⟩
  have hj0 : j = 0 := by simpa using hj
  subst hj0
  rw [cell_of_row _ _ _ _ _ _ (heap_alloc_new w _)]
  rfl
theorem RdV.drop (h : RdV w A n c vs) (k : Nat) (hk : k ≤ n) : RdV w (if c = k then A else A.map (·.add k)) (n - k) (c - k) (vs.drop k) := by
  have hl := h.len
  have hc := h.cap
  have hm := h.most
  refine ⟨by rw [List.length_drop, hl], by omega, by omega, fun hp => ?_⟩
  obtain ⟨b, off, rfl, hcell⟩ := h.cells (by omega)
  rw [if_neg (by omega)]
  have h2 : (⟨b, off, none⟩ : Addr).add k = ⟨b, off + k, none⟩ := by unfold Addr.add; split <;> simp_all
  refine ⟨b, off + k, by simp [h2], fun j hj => ?_⟩
  rw [List.length_drop] at hj
  have := hcell (k + j) (by omega)
  rw [List.getElem_drop, Nat.add_assoc]
  exact this
theorem RdV.take (h : RdV w A n c vs) (k : Nat) (hk : k ≤ n) : RdV w A k c (vs.take k) := by
  have hl := h.len
  have hc := h.cap
  refine ⟨by rw [List.length_take]; omega, by omega, h.most, fun hp => ?_⟩
  obtain ⟨b, off, e, hcell⟩ := h.cells (by omega)
  refine ⟨b, off, e, fun j hj => ?_⟩
  rw [List.length_take] at hj
  rw [List.getElem_take]
  exact hcell j (by omega)
theorem RdV.news {a : Addr} (h : RdV w (some a) n c vs) : ∀ j u, vs[j]? = some u → w.cell? (a.add j) = some u := by
  intro j u hu
  obtain ⟨hj, rfl⟩ := List.getElem?_eq_some_iff.1 hu
  have hl := h.len
  obtain ⟨b, off, e, _, hc⟩ := h.at_ (by omega)
  injection e with e
  subst e
  have := hc j hj
  simp only [Addr.add]
  split
  · rename_i h0
    subst h0
    exact this
  · exact this
end

/-- A slice value that owns its row, which begins at a block's head: one that can be appended to. -/
def OwV (e : TypeId) (w : World) (v : Value) (vs : List Value) : Prop := w.ownsRow 0 e 1 v vs.length vs
section
variable {e : TypeId} {w w' : World} {v : Value} {vs : List Value} {S : List Nat}
theorem OwV.nil (e : TypeId) (w : World) : OwV e w (.slice none 0 0) [] := World.ownsRow_nil _ _ _ _
theorem OwV.empty (e : TypeId) (w : World) : OwV e (w.alloc (.cells #[] e)) (.slice (some ⟨w.heap.size, 0, none⟩) 0 0) [] :=
  ⟨rfl, .inr ⟨w.heap.size, 0, #[], rfl, Nat.zero_le _, heap_alloc_new w _, Nat.le_refl _, by simp [maxLen], rfl, rfl⟩⟩
theorem OwV.form (h : OwV e w v vs) : ∃ A n c, v = .slice A n c ∧ RdV w A n c vs ∧ (∀ g, v.ownBlock = some g → g < w.heap.size) := by
  rcases h.2 with ⟨rfl, hn⟩ | ⟨g, cap, cur, rfl, _, hg, hnc, hcm, hcs, htake⟩
  · have : vs = [] := List.eq_nil_of_length_eq_zero hn
    subst this
    exact ⟨none, 0, 0, rfl, RdV.nil w, by simp [Value.ownBlock]⟩
  · have hlt : g < w.heap.size := (Array.getElem?_eq_some_iff.1 hg).1
    refine ⟨some ⟨g, 0, none⟩, _, cap, rfl, ⟨rfl, hnc, hcm, fun _ => ⟨g, 0, rfl, fun j hj => ?_⟩⟩, by simp [Value.ownBlock]; omega⟩
    rw [Nat.zero_add]
    rw [cell_of_row w g j cur e (0, 0) hg]
    have := congrArg (fun l : List Value => l[j]?) htake
    simp only [List.getElem?_take] at this
    rw [if_pos (by omega), List.getElem?_eq_getElem hj] at this
    simpa using this
theorem OwV.rd {A : Option Addr} {n c : Nat} (h : OwV e w (.slice A n c) vs) : RdV w A n c vs := by
  obtain ⟨A', m, d, e, hr, _⟩ := h.form
  injection e with e1 e2 e3
  subst e1 e2 e3
  exact hr
theorem OwV.keep (h : OwV e w v vs) (hk : ∀ g, v.ownBlock = some g → g < w.heap.size → w'.heap[g]? = w.heap[g]?) : OwV e w' v vs := by
  refine ⟨h.1, ?_⟩
  rcases h.2 with hn | ⟨g, cap, cur, rfl, hb, hg, rest⟩
  · exact .inl hn
  · exact .inr ⟨g, cap, cur, rfl, hb, (hk g rfl (Array.getElem?_eq_some_iff.1 hg).1).trans hg, rest⟩
theorem OwV.kept (h : OwV e w v vs) (hk : Kept S w w') (hS : ∀ g, v.ownBlock = some g → g ∉ S) : OwV e w' v vs := h.keep fun g hg hl => hk.block g hl (hS g hg)
theorem OwV.kept0 (h : OwV e w v vs) (hk : Kept [] w w') : OwV e w' v vs := h.kept hk (fun _ _ => by simp)
theorem OwV.alloc (h : OwV e w v vs) (o : Obj) : OwV e (w.alloc o) v vs := h.kept0 ((Kept.refl [] w).alloc o)
theorem OwV.drew (h : OwV e w v vs) : OwV e w.drew v vs := h.kept0 ((Kept.refl [] w).drew)
end

section
variable {P : Program} {w : World}
/-- append(row, cells...), whatever the source is (nil, empty, or not). -/
theorem run_append_vals (t ty e : TypeId) (i : TypeInfo) (z : Value) (bytes : Nat) (ht : P.underlying t = some (.slice e)) (hi : P.info? e = some i) (hz : i.zero = some z)
    (hsize : i.size = 1) (hby : i.bytes = bytes) (hzs : z.cells.size = 1) {v : Value} {xs : List Value} (hown : OwV e w v xs)
    {A : Option Addr} {m c : Nat} {news : List Value} (hr : RdV w A m c news) (h1 : ∀ u ∈ news, u.oneCell' = true) (h63 : xs.length + m ≤ maxLen) (hbytes : (xs.length + m) * bytes ≤ 140737488355328) :
    ∃ v' w', (Builtin.append_ #[t, t] ty #[v, .slice A m c]).run P w = .ok v' w' ∧ OwV e w' v' (xs ++ news) ∧ Kept v.ownBlock.toList w w' ∧ Moved w v v' := by
  rcases A with _ | a
  · have hm : m = 0 := by
      rcases Nat.eq_zero_or_pos m with h0 | h0
      · exact h0
      · obtain ⟨b, off, e, _⟩ := hr.cells h0
        cases e
    subst hm
    have hn : news = [] := List.eq_nil_of_length_eq_zero hr.len
    subst hn
    refine ⟨v, w, ?_, by simpa using hown, Kept.refl _ _, Moved.refl _ _⟩
    rcases hown.2 with ⟨rfl, _⟩ | ⟨g, cap, cur, rfl, _, _, hnc, _⟩
    · simp [Builtin.append_, run_underlying ht, sizeOf, typeInfo, hi, Builtin.lenOf, Builtin.firstCells]
    · simp [Builtin.append_, run_underlying ht, sizeOf, typeInfo, hi, Builtin.lenOf, Builtin.firstCells, hnc, storeCells]
  · obtain ⟨v', w', hrun, h2, h3, _, h5⟩ := run_append_own_at (P := P) w 0 t ty e i z 1 bytes ht hi hz hsize hby hzs (by omega) v xs.length xs hown a m c news
      (by rw [hr.len]; omega) hr.news h1 h63 hbytes (Nat.zero_le _)
    refine ⟨v', w', hrun, ?_, (Kept.refl _ _).grown h3 (by intro k hk; simp [hk]), ?_⟩
    · have := hr.len
      unfold OwV
      rw [List.length_append, this]
      exact h2
    · intro g hg
      rcases h5 with h5 | h5
      · exact .inl (by rw [← h5]; exact hg)
      · rw [h5] at hg
        injection hg with hg
        exact .inr (by omega)
theorem wpList_append_vals {ops : Array Oper} {rest : List Oper} {o : Oper} {a : Act} {Q : Exit → Act → World → Prop} (hgd : o.guard = none) (s x : Operand) (t : TypeId)
    (ho : o.op = .call { callee := .builtin .append, args := #[s, x], argTypes := #[t, t] })
    (e : TypeId) (i : TypeInfo) (z : Value) (bytes : Nat) (ht : P.underlying t = some (.slice e)) (hi : P.info? e = some i) (hz : i.zero = some z)
    (hsize : i.size = 1) (hby : i.bytes = bytes) (hzs : z.cells.size = 1)
    (v : Value) (xs : List Value) (hs : a.eval s = v) (hown : OwV e w v xs)
    (A : Option Addr) (m c : Nat) (news : List Value) (hx : a.eval x = .slice A m c) (hr : RdV w A m c news) (h1 : ∀ u ∈ news, u.oneCell' = true)
    (h63 : xs.length + m ≤ maxLen) (hbytes : (xs.length + m) * bytes ≤ 140737488355328)
    (h : ∀ v' w', OwV e w' v' (xs ++ news) → Kept v.ownBlock.toList w w' → Moved w v v' → wpList P ops Q rest (a.put o.dst v') w') : wpList P ops Q (o :: rest) a w := by
  refine wpList_plain hgd fun K hK => ?_
  obtain ⟨v', w', hrun, h2, h3, h4⟩ := run_append_vals (P := P) (w := w) t o.type e i z bytes ht hi hz hsize hby hzs hown hr h1 h63 hbytes
  unfold Oper.wp execOp
  simp only [ho, resolve, invoke, builtin, Sem.run_bind, Sem.run_pure, Result.andThen_ok, List.map_toArray, List.map_cons, List.map_nil, hs, hx, hrun]
  exact hK _ _ (h v' w' h2 h3 h4)
theorem step_append_vals {ops : Array Oper} {o : Oper} {a : Act} {K : Act → World → Prop} {Q : Exit → Act → World → Prop} {E : Prop} (hgd : o.guard = none) (s x : Operand) (t : TypeId)
    (ho : o.op = .call { callee := .builtin .append, args := #[s, x], argTypes := #[t, t] })
    (e : TypeId) (i : TypeInfo) (z : Value) (bytes : Nat) (ht : P.underlying t = some (.slice e)) (hi : P.info? e = some i) (hz : i.zero = some z)
    (hsize : i.size = 1) (hby : i.bytes = bytes) (hzs : z.cells.size = 1)
    (v : Value) (xs : List Value) (hs : a.eval s = v) (hown : OwV e w v xs)
    (A : Option Addr) (m c : Nat) (news : List Value) (hx : a.eval x = .slice A m c) (hr : RdV w A m c news) (h1 : ∀ u ∈ news, u.oneCell' = true)
    (h63 : xs.length + m ≤ maxLen) (hbytes : (xs.length + m) * bytes ≤ 140737488355328)
    (h : ∀ v' w', OwV e w' v' (xs ++ news) → Kept v.ownBlock.toList w w' → Moved w v v' → K (a.put o.dst v') w') :
    if Region.wanted o (yielded ops a.tmps) = true then Oper.wp P o a w K Q else E := by
  have hw : Region.wanted o (yielded ops a.tmps) = true := by simp [Region.wanted, hgd]
  rw [if_pos hw]
  obtain ⟨v', w', hrun, h2, h3, h4⟩ := run_append_vals (P := P) (w := w) t o.type e i z bytes ht hi hz hsize hby hzs hown hr h1 h63 hbytes
  unfold Oper.wp execOp
  simp only [ho, resolve, invoke, builtin, Sem.run_bind, Sem.run_pure, Result.andThen_ok, List.map_toArray, List.map_cons, List.map_nil, hs, hx, hrun]
  exact h v' w' h2 h3 h4
/-- What an append leaves, seen from an elder world behind which the row was made. -/
theorem app_new {wr W w5 : World} {v v5 : Value} (hK : Kept [] wr W) (hv : ∀ g, v.ownBlock = some g → wr.heap.size ≤ g) (hk : Kept v.ownBlock.toList W w5) (hm : Moved W v v5) :
    Kept [] wr w5 ∧ ∀ g, v5.ownBlock = some g → wr.heap.size ≤ g := by
  refine ⟨hK.trans hk (fun i hi => .inr (hv i (by simpa using hi))), fun g hg => ?_⟩
  rcases hm g hg with h | h
  · exact hv g h
  · exact Nat.le_trans hK.size h
end
theorem RdV.one_at {w : World} {g : Nat} {v : Value} {e : TypeId} {fr : Nat × Nat} (h : w.heap[g]? = some (.cells #[v] e fr)) : RdV w (some ⟨g, 0, none⟩) 1 1 [v] := by
  refine ⟨rfl, Nat.le_refl _, by simp [maxLen], fun _ => ⟨g, 0, rfl, fun j hj => ?_⟩⟩
  have hj0 : j = 0 := by simpa using hj
  subst hj0
  rw [cell_of_row _ _ _ _ _ _ h]
  rfl
theorem OwV.empty_at {w : World} {g : Nat} {e : TypeId} (h : w.heap[g]? = some (.cells #[] e (0, 0))) : OwV e w (.slice (some ⟨g, 0, none⟩) 0 0) [] :=
  ⟨rfl, .inr ⟨g, 0, #[], rfl, Nat.zero_le _, h, Nat.le_refl _, by simp [maxLen], rfl, rfl⟩⟩
end Go.Proofs.YtibcjbelcplpjaaDoor
