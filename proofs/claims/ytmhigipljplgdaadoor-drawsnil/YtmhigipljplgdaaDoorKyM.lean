/-
  Helper words on memory: rows of keys (each of 32 bytes that lie in the row itself). No statement of the seed is proved here.
-/
import Derived.Test.YtmhigipljplgdaaDoorChecked
import Derived.Test.YtmhigipljplgdaaDoorPc
import Derived.Deep.MidRow
namespace Go.Proofs.YtmhigipljplgdaaDoor
open Go.ChangeShapes Go.WideShapes Go.ChangeAt Go.RowKit
set_option linter.unusedVariables false

abbrev Ks := List (List UInt8)
def All32 (ks : Ks) : Prop := ∀ k, k ∈ ks → k.length = 32
theorem All32.nil : All32 [] := fun k h => by simp at h
theorem All32.one {k : List UInt8} (h : k.length = 32) : All32 [k] := fun x hx => by simp at hx; rw [hx]; exact h
theorem All32.append {a b : Ks} (ha : All32 a) (hb : All32 b) : All32 (a ++ b) := fun k h => by
  rcases List.mem_append.1 h with h1 | h1
  · exact ha k h1
  · exact hb k h1
theorem All32.drop {a : Ks} (ha : All32 a) (n : Nat) : All32 (a.drop n) := fun k h => ha k (List.mem_of_mem_drop h)
theorem All32.take {a : Ks} (ha : All32 a) (n : Nat) : All32 (a.take n) := fun k h => ha k (List.mem_of_mem_take h)
theorem All32.get {a : Ks} (ha : All32 a) {j : Nat} {k : List UInt8} (h : a[j]? = some k) : k.length = 32 := ha k (List.mem_of_getElem? h)
theorem kflat_len : ∀ {ks : Ks}, All32 ks → ks.flatten.length = ks.length * 32
  | [], _ => rfl
  | k :: r, h => by
    have h1 := h k (by simp)
    have h2 := kflat_len (ks := r) (fun x hx => h x (by simp [hx]))
    rw [List.flatten_cons, List.length_append, h1, h2, List.length_cons]
    omega
theorem kflat_get : ∀ {ks : Ks} {j i : Nat} {k : List UInt8}, All32 ks → ks[j]? = some k → i < 32 → ks.flatten[j * 32 + i]? = k[i]?
  | [], j, i, k, _, h, _ => by simp at h
  | x :: r, 0, i, k, hl, h, hi => by
    obtain rfl : x = k := by simpa using h
    have hx := hl x (by simp)
    rw [List.flatten_cons, Nat.zero_mul, Nat.zero_add, List.getElem?_append_left (by omega)]
  | x :: r, j + 1, i, k, hl, h, hi => by
    have hx := hl x (by simp)
    have ih := kflat_get (ks := r) (j := j) (i := i) (k := k) (fun y hy => hl y (by simp [hy])) (by simpa using h) hi
    rw [List.flatten_cons, List.getElem?_append_right (by omega), ← ih]
    congr 1
    omega
theorem kflat_drop : ∀ {ks : Ks} {n : Nat}, All32 ks → (ks.drop n).flatten = ks.flatten.drop (n * 32)
  | ks, 0, _ => by simp
  | [], n + 1, _ => by simp
  | x :: r, n + 1, h => by
    have hx := h x (by simp)
    have ih := kflat_drop (ks := r) (n := n) (fun y hy => h y (by simp [hy]))
    rw [List.drop_succ_cons, ih, List.flatten_cons, List.drop_append, List.drop_of_length_le (show x.length ≤ (n + 1) * 32 by omega), List.nil_append]
    congr 1
    omega
theorem kflat_take : ∀ {ks : Ks} {n : Nat}, All32 ks → (ks.take n).flatten = ks.flatten.take (n * 32)
  | ks, 0, _ => by simp
  | [], n + 1, _ => by simp
  | x :: r, n + 1, h => by
    have hx := h x (by simp)
    have ih := kflat_take (ks := r) (n := n) (fun y hy => h y (by simp [hy]))
    rw [List.take_succ_cons, List.flatten_cons, ih, List.flatten_cons, List.take_append, List.take_of_length_le (show x.length ≤ (n + 1) * 32 by omega)]
    congr 2
    omega

/-- The slice '.slice A n c' reads as these keys. -/
structure RdK (w : World) (A : Option Addr) (n c : Nat) (ks : Ks) : Prop where
  len : ks.length = n
  each : All32 ks
  cap : n ≤ c
  most : c ≤ maxLen
  cells : 0 < n → ∃ b off, A = some ⟨b, off, none⟩ ∧ w.rangeAt b off (bvs ks.flatten)
section
variable {w w' : World} {A : Option Addr} {n c : Nat} {ks : Ks} {S : List Nat}
theorem RdK.nil (w : World) : RdK w none 0 0 [] := ⟨rfl, All32.nil, Nat.le_refl _, by simp [maxLen], fun h => absurd h (by omega)⟩
theorem RdK.empty (w : World) (A : Option Addr) (c : Nat) (hc : c ≤ maxLen) : RdK w A 0 c [] := ⟨rfl, All32.nil, Nat.zero_le _, hc, fun h => absurd h (by omega)⟩
theorem RdK.at_ (h : RdK w A n c ks) (hn : 0 < n) : ∃ b off, A = some ⟨b, off, none⟩ ∧ b < w.heap.size ∧ w.rangeAt b off (bvs ks.flatten) := by
  obtain ⟨b, off, e, hc⟩ := h.cells hn
  have hl := kflat_len h.each
  have h0 := h.len
  have hlt : 0 < ks.flatten.length := by omega
  have h1 := hc 0 _ (by rw [bvs_get ks.flatten 0 hlt])
  exact ⟨b, off, e, World.block_lt_of_cell? w _ h1, hc⟩
theorem RdK.keep (h : RdK w A n c ks) (hk : ∀ b off, A = some ⟨b, off, none⟩ → b < w.heap.size → w'.heap[b]? = w.heap[b]?) : RdK w' A n c ks :=
  ⟨h.len, h.each, h.cap, h.most, fun hn => by
    obtain ⟨b, off, e, hb, hc⟩ := h.at_ hn
    exact ⟨b, off, e, fun j v hv => (World.cell?_of_block (w := w) (hk b off e hb)).trans (hc j v hv)⟩⟩
theorem RdK.kept (h : RdK w A n c ks) (hk : Kept S w w') (hS : 0 < n → Off A S) : RdK w' A n c ks := by
  rcases Nat.eq_zero_or_pos n with h0 | h0
  · exact ⟨h.len, h.each, h.cap, h.most, fun hp => absurd hp (by omega)⟩
  · exact h.keep fun b _ e hb => hk.block b hb (hS h0 _ e)
theorem RdK.kept0 (h : RdK w A n c ks) (hk : Kept [] w w') : RdK w' A n c ks := h.kept hk (fun _ _ _ => by simp)
theorem RdK.keptNew (h : RdK w A n c ks) (hk : Kept S w w') (hS : ∀ k, k ∈ S → w.heap.size ≤ k) : RdK w' A n c ks :=
  h.keep fun b _ _ hb => hk.block b hb (fun hm => by have := hS b hm; omega)
theorem RdK.alloc (h : RdK w A n c ks) (o : Obj) : RdK (w.alloc o) A n c ks := h.kept0 ((Kept.refl [] w).alloc o)
theorem RdK.drew (h : RdK w A n c ks) : RdK w.drew A n c ks := h.kept0 (Kept.refl [] w).drew
theorem RdK.drewN (h : RdK w A n c ks) (k : Nat) : RdK (w.drewN k) A n c ks := h.kept0 ((Kept.refl [] w).drewN k)
/-- One key of it. -/
theorem RdK.key (h : RdK w A n c ks) {j : Nat} (hj : j < n) : ∃ b off k, A = some ⟨b, off, none⟩ ∧ ks[j]? = some k ∧ k.length = 32 ∧ w.rangeAt b (off + j * 32) (bvs k) ∧ b < w.heap.size := by
  obtain ⟨b, off, e, hb, hc⟩ := h.at_ (by omega)
  have hl := h.len
  have hk : ks[j]? = some (ks[j]'(by omega)) := List.getElem?_eq_getElem (by omega)
  refine ⟨b, off, _, e, hk, h.each.get hk, fun i v hv => ?_, hb⟩
  have hi : i < 32 := by have := (List.getElem?_eq_some_iff.1 hv).1; rw [bvs_length, h.each.get hk] at this; exact this
  rw [Nat.add_assoc]
  refine hc (j * 32 + i) v ?_
  rw [bvs, List.getElem?_map, kflat_get h.each hk hi, ← List.getElem?_map]
  exact hv
theorem RdK.drop (h : RdK w A n c ks) (k : Nat) (hk : k ≤ n) : RdK w (if c = k then A else A.map (·.add (k * 32))) (n - k) (c - k) (ks.drop k) := by
  have hl := h.len
  have hc := h.cap
  have hm := h.most
  refine ⟨by rw [List.length_drop, hl], h.each.drop k, by omega, by omega, fun hp => ?_⟩
  obtain ⟨b, off, rfl, hcell⟩ := h.cells (by omega)
  rw [if_neg (by omega)]
  refine ⟨b, off + k * 32, by simp [addr_add], fun j v hv => ?_⟩
  rw [Nat.add_assoc]
  refine hcell (k * 32 + j) v ?_
  rw [kflat_drop h.each, bvs, List.getElem?_map, List.getElem?_drop] at hv
  rw [bvs, List.getElem?_map]
  exact hv
theorem RdK.take (h : RdK w A n c ks) (k : Nat) (hk : k ≤ n) : RdK w A k c (ks.take k) := by
  have hl := h.len
  have hc := h.cap
  refine ⟨by rw [List.length_take]; omega, h.each.take k, by omega, h.most, fun hp => ?_⟩
  obtain ⟨b, off, e, hcell⟩ := h.cells (by omega)
  refine ⟨b, off, e, fun j v hv => hcell j v ?_⟩
  rw [kflat_take h.each, bvs, List.getElem?_map, List.getElem?_take] at hv
  rw [bvs, List.getElem?_map]
  by_cases hj : j < k * 32
  · rw [if_pos hj] at hv; exact hv
  · rw [if_neg hj] at hv; simp at hv
theorem RdK.narrow (h : RdK w A n c ks) (c' : Nat) (h1 : n ≤ c') (h2 : c' ≤ c) : RdK w A n c' ks := ⟨h.len, h.each, h1, Nat.le_trans h2 h.most, h.cells⟩
/-- A literal's row. -/
theorem RdK.lit (w : World) (e : TypeId) (cs : Array Value) (n : Nat) (ks : Ks) (h : cs = (bvs ks.flatten).toArray) (hn : ks.length = n) (ha : All32 ks) (hm : n ≤ maxLen) : RdK (w.alloc (.cells cs e)) (some ⟨w.heap.size, 0, none⟩) n n ks := by
  subst h
  refine ⟨hn, ha, Nat.le_refl _, hm, fun _ => ⟨w.heap.size, 0, rfl, fun j v hv => ?_⟩⟩
  rw [cell_of_row _ _ _ _ _ _ (heap_alloc_new w _), Nat.zero_add]
  simpa using hv
/-- As the library's append asks for it. -/
theorem RdK.news {a : Addr} (h : RdK w (some a) n c ks) : ∀ j u, (bvs ks.flatten)[j]? = some u → w.cell? (a.add j) = some u := by
  intro j u hu
  have hj := (List.getElem?_eq_some_iff.1 hu).1
  rw [bvs_length, kflat_len h.each, h.len] at hj
  obtain ⟨b, off, e, _, hc⟩ := h.at_ (by omega)
  injection e with e
  subst e
  rw [addr_add]
  exact hc j u hu
end

/-- A slice of keys that owns its row: one that can be appended to. -/
def OwK (w : World) (v : Value) (ks : Ks) : Prop := All32 ks ∧ w.ownsRow 0 32 32 v ks.length (bvs ks.flatten)
section
variable {w w' : World} {v : Value} {ks : Ks} {S : List Nat}
theorem OwK.nil (w : World) : OwK w (.slice none 0 0) [] := ⟨All32.nil, World.ownsRow_nil _ _ _ _⟩
theorem OwK.empty (w : World) : OwK (w.alloc (.cells #[] 32)) (.slice (some ⟨w.heap.size, 0, none⟩) 0 0) [] :=
  ⟨All32.nil, rfl, .inr ⟨w.heap.size, 0, #[], rfl, Nat.zero_le _, heap_alloc_new w _, Nat.le_refl _, by simp [maxLen], rfl, rfl⟩⟩
theorem OwK.form (h : OwK w v ks) : ∃ A n c, v = .slice A n c ∧ RdK w A n c ks ∧ (∀ g, v.ownBlock = some g → g < w.heap.size) := by
  obtain ⟨ha, h1, h2⟩ := h
  rcases h2 with ⟨rfl, hn⟩ | ⟨g, cap, cur, rfl, _, hg, hnc, hcm, hcs, htake⟩
  · have : ks = [] := List.eq_nil_of_length_eq_zero hn
    subst this
    exact ⟨none, 0, 0, rfl, RdK.nil w, by simp [Value.ownBlock]⟩
  · have hlt : g < w.heap.size := (Array.getElem?_eq_some_iff.1 hg).1
    refine ⟨some ⟨g, 0, none⟩, _, cap, rfl, ⟨rfl, ha, hnc, hcm, fun _ => ⟨g, 0, rfl, fun j u hu => ?_⟩⟩, by simp [Value.ownBlock]; omega⟩
    rw [Nat.zero_add, cell_of_row w g j cur 32 (0, 0) hg]
    have h3 := congrArg (fun l : List Value => l[j]?) htake
    have hj := (List.getElem?_eq_some_iff.1 hu).1
    rw [bvs_length, kflat_len ha] at hj
    simp only [List.getElem?_take] at h3
    rw [if_pos (by omega), hu] at h3
    simpa using h3
theorem OwK.rd {A : Option Addr} {n c : Nat} (h : OwK w (.slice A n c) ks) : RdK w A n c ks := by
  obtain ⟨A', m, d, e, hr, _⟩ := h.form
  injection e with e1 e2 e3
  subst e1 e2 e3
  exact hr
theorem OwK.keep (h : OwK w v ks) (hk : ∀ g, v.ownBlock = some g → g < w.heap.size → w'.heap[g]? = w.heap[g]?) : OwK w' v ks := by
  refine ⟨h.1, h.2.1, ?_⟩
  rcases h.2.2 with hn | ⟨g, cap, cur, rfl, hb, hg, rest⟩
  · exact .inl hn
  · exact .inr ⟨g, cap, cur, rfl, hb, (hk g rfl (Array.getElem?_eq_some_iff.1 hg).1).trans hg, rest⟩
theorem OwK.kept (h : OwK w v ks) (hk : Kept S w w') (hS : ∀ g, v.ownBlock = some g → g ∉ S) : OwK w' v ks := h.keep fun g hg hl => hk.block g hl (hS g hg)
theorem OwK.kept0 (h : OwK w v ks) (hk : Kept [] w w') : OwK w' v ks := h.kept hk (fun _ _ => by simp)
theorem OwK.alloc (h : OwK w v ks) (o : Obj) : OwK (w.alloc o) v ks := h.kept0 ((Kept.refl [] w).alloc o)
theorem OwK.drew (h : OwK w v ks) : OwK w.drew v ks := h.kept0 ((Kept.refl [] w).drew)
theorem infoK : ∃ i, Tryd.prog.info? 32 = some i ∧ i.zero = some (.agg (zb 32).toArray) ∧ i.size = 32 ∧ i.bytes = 32 := by
  have h1 : (Tryd.prog.info? 32).map (fun i => (i.zero, i.size, i.bytes)) = some (some (.agg (zb 32).toArray), 32, 32) := by kernel_rfl
  obtain ⟨i, hi, he⟩ := Option.map_eq_some_iff.1 h1
  injection he with e1 e2
  injection e2 with e2 e3
  exact ⟨i, hi, e1, e2, e3⟩
/-- append(row, keys...), whatever the source is (nil, empty, or not). -/
theorem run_append_keys (ty : TypeId) (hown : OwK w v ks) {A : Option Addr} {m c : Nat} {ms : Ks} (hr : RdK w A m c ms) (hlen : ks.length + m ≤ 1000000000000) :
    ∃ v' w', (Builtin.append_ #[22, 22] ty #[v, .slice A m c]).run Tryd.prog w = .ok v' w' ∧ OwK w' v' (ks ++ ms) ∧ Kept v.ownBlock.toList w w' ∧ Moved w v v' := by
  obtain ⟨i, hi, hz, hsz, hby⟩ := infoK
  have ht := Tryd.underlying22
  rcases A with _ | a
  · have hm : m = 0 := by
      rcases Nat.eq_zero_or_pos m with h0 | h0
      · exact h0
      · obtain ⟨b, off, e, _⟩ := hr.cells h0
        cases e
    subst hm
    have hn : ms = [] := List.eq_nil_of_length_eq_zero hr.len
    subst hn
    refine ⟨v, w, ?_, by simpa using hown, Kept.refl _ _, Moved.refl _ _⟩
    rcases hown.2.2 with ⟨rfl, _⟩ | ⟨g, cap, cur, rfl, _, _, hnc, _⟩
    · simp [Builtin.append_, run_underlying ht, sizeOf, typeInfo, hi, Builtin.lenOf, Builtin.firstCells]
    · simp [Builtin.append_, run_underlying ht, sizeOf, typeInfo, hi, Builtin.lenOf, Builtin.firstCells, hnc, storeCells]
  · obtain ⟨v', w', hrun, h2, h3, _, h5⟩ := run_append_own_at (P := Tryd.prog) w 0 22 ty 32 i (.agg (zb 32).toArray) 32 32 ht hi hz hsz hby rfl (by omega) v ks.length (bvs ks.flatten) hown.2 a m c (bvs ms.flatten)
      (by rw [bvs_length, kflat_len hr.each, hr.len]) hr.news (bvs_one _) (by simp only [maxLen]; omega) (by omega) (Nat.zero_le _)
    refine ⟨v', w', hrun, ⟨hown.1.append hr.each, ?_⟩, (Kept.refl _ _).grown h3 (by intro k hk; simp [hk]), ?_⟩
    · have := hr.len
      rw [List.length_append, this, List.flatten_append, bvs_append]
      exact h2
    · intro g hg
      rcases h5 with h5 | h5
      · exact .inl (by rw [← h5]; exact hg)
      · rw [h5] at hg
        injection hg with hg
        exact .inr (by omega)
theorem wpList_append_keys {ops : Array Oper} {rest : List Oper} {o : Oper} {a : Act} {Q : Exit → Act → World → Prop} (hgd : o.guard = none) (s x : Operand)
    (ho : o.op = .call { callee := .builtin .append, args := #[s, x], argTypes := #[22, 22] }) (v : Value) (ks : Ks) (hs : a.eval s = v) (hown : OwK w v ks)
    (A : Option Addr) (m c : Nat) (ms : Ks) (hx : a.eval x = .slice A m c) (hr : RdK w A m c ms) (hlen : ks.length + m ≤ 1000000000000)
    (h : ∀ v' w', OwK w' v' (ks ++ ms) → Kept v.ownBlock.toList w w' → Moved w v v' → wpList Tryd.prog ops Q rest (a.put o.dst v') w') : wpList Tryd.prog ops Q (o :: rest) a w := by
  refine wpList_plain hgd fun K hK => ?_
  obtain ⟨v', w', hrun, h2, h3, h4⟩ := run_append_keys o.type hown hr hlen
  unfold Oper.wp execOp
  simp only [ho, resolve, invoke, builtin, Sem.run_bind, Sem.run_pure, Result.andThen_ok, List.map_toArray, List.map_cons, List.map_nil, hs, hx, hrun]
  exact hK _ _ (h v' w' h2 h3 h4)
theorem step_append_keys {ops : Array Oper} {o : Oper} {a : Act} {K : Act → World → Prop} {Q : Exit → Act → World → Prop} {E : Prop} (hgd : o.guard = none) (s x : Operand)
    (ho : o.op = .call { callee := .builtin .append, args := #[s, x], argTypes := #[22, 22] }) (v : Value) (ks : Ks) (hs : a.eval s = v) (hown : OwK w v ks)
    (A : Option Addr) (m c : Nat) (ms : Ks) (hx : a.eval x = .slice A m c) (hr : RdK w A m c ms) (hlen : ks.length + m ≤ 1000000000000)
    (h : ∀ v' w', OwK w' v' (ks ++ ms) → Kept v.ownBlock.toList w w' → Moved w v v' → K (a.put o.dst v') w') :
    if Region.wanted o (yielded ops a.tmps) = true then Oper.wp Tryd.prog o a w K Q else E := by
  have hw : Region.wanted o (yielded ops a.tmps) = true := by simp [Region.wanted, hgd]
  rw [if_pos hw]
  obtain ⟨v', w', hrun, h2, h3, h4⟩ := run_append_keys o.type hown hr hlen
  unfold Oper.wp execOp
  simp only [ho, resolve, invoke, builtin, Sem.run_bind, Sem.run_pure, Result.andThen_ok, List.map_toArray, List.map_cons, List.map_nil, hs, hx, hrun]
  exact h v' w' h2 h3 h4
end

section
variable {w : World} {A : Option Addr} {n c : Nat} {ks : Ks}
theorem size_key (W : World) : (sizeOf (Tryd.prog.elem 22)).run Tryd.prog W = .ok 32 W := by
  obtain ⟨i, hi, _, hsz, _⟩ := infoK
  have he : Tryd.prog.elem 22 = 32 := by simp [Program.elem, Tryd.underlying22]
  rw [he]; simp [sizeOf, typeInfo, hi, hsz]
theorem und_lk : Tryd.prog.underlying 22 = some (.slice (Tryd.prog.elem 22)) := by
  have he : Tryd.prog.elem 22 = 32 := by simp [Program.elem, Tryd.underlying22]
  rw [he]; exact Tryd.underlying22
theorem off_addK {A : Option Addr} {S : List Nat} (h : Off A S) (k : Nat) : Off (A.map (·.add k)) S := off_add h k
/-- A row of keys cut from a place on. -/
theorem RdK.cutFrom (h : RdK w A n c ks) (k : Nat) (z : Int) (hz : z = (k : Int)) (hk : k ≤ n) :
    ∃ A', RdK w A' (n - k) (c - k) (ks.drop k) ∧ (∀ S, Off A S → Off A' S) ∧ ∀ W, (Instr.slice 22 (.slice A n c) (some (.int .i64 z)) none none).run Tryd.prog W = .ok (.slice A' (n - k) (c - k)) W := by
  subst hz
  have hcap := h.cap
  refine ⟨_, h.drop k hk, ?_, fun W => ?_⟩
  · intro S hS
    split
    · exact hS
    · exact off_addK hS _
  rw [run_slice_l (P := Tryd.prog) W 22 A n c und_lk .i64 (k : Int) (by omega) (by omega), size_key W]
  simp [sliced, Result.andThen]
/-- .. up to a place. -/
theorem RdK.cutTo (h : RdK w A n c ks) (k : Nat) (z : Int) (hz : z = (k : Int)) (hk : k ≤ n) :
    RdK w A k c (ks.take k) ∧ ∀ W, (Instr.slice 22 (.slice A n c) none (some (.int .i64 z)) none).run Tryd.prog W = .ok (.slice A k c) W := by
  subst hz
  have hcap := h.cap
  refine ⟨h.take k hk, fun W => ?_⟩
  rw [run_slice_h (P := Tryd.prog) W 22 A n c und_lk .i64 (k : Int) (by omega) (by omega), size_key W]
  cases A <;> simp [sliced, Result.andThen, Addr.add]
end
end Go.Proofs.YtmhigipljplgdaaDoor
