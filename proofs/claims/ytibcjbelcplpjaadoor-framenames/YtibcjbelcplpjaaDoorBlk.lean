/-
  Helper words on memory, going on: a block whose cells are known as a list ('Blk'): a variable that is an array or a struct, loaded and stored whole, and cell by cell. No statement of the seed is proved here.
-/
import Derived.Test.YtibcjbelcplpjaaDoorMem
import Derived.Deep.MidRow
import Derived.Deep.WholeRow
import Derived.Laws.CopyOwn
import Derived.Great.Walk
namespace Go.Proofs.YtibcjbelcplpjaaDoor
open Go.RowKit

/-- The block g holds the cells cs, and all may be written. -/
def Blk (w : World) (g : Nat) (t : TypeId) (cs : List Value) : Prop := w.heap[g]? = some (.cells cs.toArray t (0, 0))
section
variable {w w' : World} {g : Nat} {t : TypeId} {cs : List Value} {S : List Nat}
theorem Blk.lt (h : Blk w g t cs) : g < w.heap.size := (Array.getElem?_eq_some_iff.1 h).1
theorem Blk.cell (h : Blk w g t cs) (j : Nat) : w.cell? ⟨g, j, none⟩ = cs[j]? := by rw [cell_of_row w g j _ _ _ h]; simp
theorem Blk.cellD (h : Blk w g t cs) (j : Nat) (hj : j < cs.length) : w.cell? ⟨g, j, none⟩ = some cs[j] := by rw [h.cell, List.getElem?_eq_getElem hj]
theorem Blk.frz (h : Blk w g t cs) (j : Nat) : w.frozen? ⟨g, j, none⟩ = false := frozen_of_row w g j _ _ h
theorem Blk.keep (h : Blk w g t cs) (hk : w'.heap[g]? = w.heap[g]?) : Blk w' g t cs := hk.trans h
theorem Blk.kept (h : Blk w g t cs) (hk : Kept S w w') (hS : g ∉ S) : Blk w' g t cs := h.keep (hk.block g h.lt hS)
theorem Blk.kept0 (h : Blk w g t cs) (hk : Kept [] w w') : Blk w' g t cs := h.kept hk (by simp)
theorem Blk.alloc (h : Blk w g t cs) (o : Obj) : Blk (w.alloc o) g t cs := h.kept0 ((Kept.refl [] w).alloc o)
theorem Blk.drewN (h : Blk w g t cs) (n : Nat) : Blk (w.drewN n) g t cs := h
theorem Blk.drew (h : Blk w g t cs) : Blk w.drew g t cs := h
theorem Blk.new (w : World) (t : TypeId) (cs : List Value) : Blk (w.alloc (.cells cs.toArray t)) w.heap.size t cs := heap_alloc_new w _
theorem Blk.set (h : Blk w g t cs) (j : Nat) (v : Value) : Blk (w.setCell ⟨g, j, none⟩ v) g t (cs.set j v) := by
  unfold Blk
  rw [heap_setCell_same w g j _ _ v h]
  simp
theorem Blk.set_other (h : Blk w g t cs) {b : Nat} (j : Nat) (v : Value) (hb : g ≠ b) : Blk (w.setCell ⟨b, j, none⟩ v) g t cs := h.keep (heap_setCell_other w _ g v hb)
theorem Blk.of_eq (h : Blk w g t cs) {ds : List Value} (e : cs = ds) : Blk w g t ds := e ▸ h
theorem Blk.inj (h : Blk w g t cs) {ds : List Value} {u : TypeId} (k : Blk w g u ds) : cs = ds := by
  unfold Blk at h k
  rw [h] at k
  injection k with k
  injection k with k1
  simpa using k1
/-- A piece of a block that holds bytes, as a byte slice. -/
theorem Blk.rdb (h : Blk w g t cs) (off n c : Nat) (bs : List UInt8) (hb : (cs.drop off).take n = bvs bs) (hl : bs.length = n) (hc : n ≤ c) (hm : c ≤ maxLen) : RdB w (some ⟨g, off, none⟩) n c bs := by
  refine ⟨hl, hc, hm, fun _ => ⟨g, off, rfl, fun j hj => ?_⟩⟩
  rw [h.cell]
  have h1 := congrArg (fun l : List Value => l[j]?) hb
  simp only [List.getElem?_take, List.getElem?_drop] at h1
  rw [if_pos (by omega), bvs_get bs j hj] at h1
  exact h1
end

theorem splice_snoc {α : Type} (L : List α) (off : Nat) (l : List α) (v : α) (h : off + l.length < L.length) : (splice L off l).set (off + l.length) v = splice L off (l ++ [v]) := by
  unfold splice
  have e1 : (L.take off).length = off := by rw [List.length_take]; omega
  rw [List.set_append_right _ _ (by omega), e1, Nat.add_sub_cancel_left, List.set_append_right _ _ (Nat.le_refl _), Nat.sub_self]
  rw [List.append_assoc, List.length_append, List.length_singleton]
  congr 2
  rw [List.drop_eq_getElem_cons (by omega), List.set_cons_zero, List.singleton_append, Nat.add_assoc]
theorem splice_nil {α : Type} (L : List α) (off : Nat) : splice L off [] = L := by simp [splice]

section
variable {P : Program} {w : World}
/-- A new variable of an array's or a struct's type. -/
theorem wpList_alloc_blk {ops : Array Oper} {rest : List Oper} {o : Oper} {a : Act} {Q : Exit → Act → World → Prop} (hg : o.guard = none) (t : TypeId) (ho : o.op = .alloc t) (zs : List Value)
    (hz : (P.info? t).bind (·.zero) = some (.agg zs.toArray))
    (h : ∀ w', Blk w' w.heap.size t zs → Kept [] w w' → w'.heap.size = w.heap.size + 1 → wpList P ops Q rest (a.put o.dst (.pointer (some ⟨w.heap.size, 0, none⟩))) w') : wpList P ops Q (o :: rest) a w := by
  refine wpList_plain hg fun K hK => ?_
  cases hq : P.info? t with
  | none => simp [hq] at hz
  | some i =>
    have hzz : i.zero = some (.agg zs.toArray) := by simpa [hq] using hz
    have hh := h (w.alloc (.cells zs.toArray t)) (Blk.new w t zs) ((Kept.refl [] w).alloc _) (by simp)
    unfold Oper.wp execOp
    simp [ho, Instr.alloc, zeroValue, typeInfo, hq, hzz, newVar, newRow, Value.cells]
    exact hK _ _ hh
/-- All of it stored. -/
theorem wpList_store_blk {ops : Array Oper} {rest : List Oper} {o : Oper} {a : Act} {Q : Exit → Act → World → Prop} (hgd : o.guard = none) (ty : TypeId) (x y : Operand) (ho : o.op = .store ty x y)
    (g : Nat) (cs : List Value) (hx : a.eval x = .pointer (some ⟨g, 0, none⟩)) (hy : a.eval y = .agg cs.toArray)
    (t : TypeId) (old : List Value) (hg : Blk w g t old) (hi : (P.info? ty).map (·.size) = some cs.length)
    (hold : old.length = cs.length) (h1 : ∀ v ∈ cs, v.oneCell' = true)
    (h : ∀ w', Blk w' g t cs → Kept [g] w w' → w'.heap.size = w.heap.size → wpList P ops Q rest (a.put o.dst undef) w') : wpList P ops Q (o :: rest) a w :=
  wpList_store_row hgd ty x y ho g cs.toArray hx hy t old.toArray hg (by simpa using hi) (by simpa using hold) (all_oneCell_toArray h1)
    (h _ (setRow_heap w g _ _ t _ hg) ⟨rfl, rfl, rfl, by simp, fun k _ hk => setRow_other w g k _ (by simpa using hk)⟩ (by simp))
/-- All of it loaded. -/
theorem wpList_load_blk {ops : Array Oper} {rest : List Oper} {o : Oper} {a : Act} {Q : Exit → Act → World → Prop} (hgd : o.guard = none) (ty : TypeId) (x : Operand) (ho : o.op = .load ty x)
    (g : Nat) (hx : a.eval x = .pointer (some ⟨g, 0, none⟩)) (t : TypeId) (cs : List Value) (d : TypeDesc) (hg : Blk w g t cs)
    (hu : P.underlying ty = some d) (hd : d.isRow = true) (hi : (P.info? ty).map (·.size) = some cs.length)
    (h : wpList P ops Q rest (a.put o.dst (.agg cs.toArray)) w) : wpList P ops Q (o :: rest) a w :=
  wpList_load_mid hgd ty x ho g 0 hx cs d (fun j v hv => by rw [Nat.zero_add, hg.cell]; exact hv) hu hd hi h
/-- A piece of it loaded. -/
theorem wpList_load_part {ops : Array Oper} {rest : List Oper} {o : Oper} {a : Act} {Q : Exit → Act → World → Prop} (hgd : o.guard = none) (ty : TypeId) (x : Operand) (ho : o.op = .load ty x)
    (g off : Nat) (hx : a.eval x = .pointer (some ⟨g, off, none⟩)) (t : TypeId) (cs ps : List Value) (d : TypeDesc) (hg : Blk w g t cs) (hp : (cs.drop off).take ps.length = ps)
    (hu : P.underlying ty = some d) (hd : d.isRow = true) (hi : (P.info? ty).map (·.size) = some ps.length)
    (h : wpList P ops Q rest (a.put o.dst (.agg ps.toArray)) w) : wpList P ops Q (o :: rest) a w :=
  wpList_load_mid hgd ty x ho g off hx ps d (fun j v hv => by
    rw [hg.cell]
    have h1 := congrArg (fun l : List Value => l[j]?) hp
    have hj := (List.getElem?_eq_some_iff.1 hv).1
    simp only [List.getElem?_take, List.getElem?_drop] at h1
    rw [if_pos hj] at h1
    rw [h1, hv]) hu hd hi h
/-- A result that lies in a variable. -/
theorem results_blk {fn : Func} {p : Tmp} {ty : TypeId} (h : fn.results = #[.cell p ty]) (tmps : Array Value) (g : Nat) (t : TypeId) (cs : List Value) (d : TypeDesc)
    (hp : tmps.getD p undef = .pointer (some ⟨g, 0, none⟩)) (hg : Blk w g t cs)
    (hu : P.underlying ty = some d) (hd : d.isRow = true) (hi : (P.info? ty).map (·.size) = some cs.length) :
    (results fn tmps).run P w = .ok (.agg cs.toArray) w :=
  results_cell_row h tmps w g t cs.toArray (0, 0) d hp hg hu (by cases d <;> simp_all [TypeDesc.isRow]) (by simpa using hi)
/-- An array that is cut: from a place on; up to a place. -/
theorem run_cut_from (t e : TypeId) (n g off : Nat) (k : IntKind) (l : Nat) (z : Int) (hu : P.underlying t = some (.array n e)) (hs : (P.info? e).map (·.size) = some 1) (hz : z = (l : Int)) (hl : l < n) (W : World) :
    (Instr.sliceAt t (.pointer (some ⟨g, off, none⟩)) (some (.int k z)) none none).run P W = .ok (.slice (some ⟨g, off + l, none⟩) (n - l) (n - l)) W := by
  subst hz
  cases hq : P.info? e with
  | none => simp [hq] at hs
  | some i =>
    have hi : i.size = 1 := by simpa [hq] using hs
    simp only [Instr.sliceAt, Instr.sureAddr, Sem.run_bind, run_underlying hu, Result.andThen_ok, Sem.run_pure]
    simp [Instr.sliceBounds, run_sliceBound, sizeOf, typeInfo, hq, hi, Nat.le_of_lt hl, show n ≠ l by omega, Addr.add_mid]
theorem run_cut_to (t e : TypeId) (n g off : Nat) (k : IntKind) (h : Nat) (z : Int) (hu : P.underlying t = some (.array n e)) (hs : (P.info? e).map (·.size) = some 1) (hz : z = (h : Int)) (hh : h ≤ n) (hn : 0 < n) (W : World) :
    (Instr.sliceAt t (.pointer (some ⟨g, off, none⟩)) none (some (.int k z)) none).run P W = .ok (.slice (some ⟨g, off, none⟩) h n) W := by
  subst hz
  cases hq : P.info? e with
  | none => simp [hq] at hs
  | some i =>
    have hi : i.size = 1 := by simpa [hq] using hs
    simp only [Instr.sliceAt, Instr.sureAddr, Sem.run_bind, run_underlying hu, Result.andThen_ok, Sem.run_pure]
    simp [Instr.sliceBounds, run_sliceBound, sizeOf, typeInfo, hq, hi, hh, show n ≠ 0 by omega, Addr.add_mid]
end
end Go.Proofs.YtibcjbelcplpjaaDoor
