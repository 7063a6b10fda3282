/-
  Helper words on memory: a row of keys whose room may be no more than it holds; an append onto it; it cut. No statement of the seed is proved here.
-/
import Derived.Test.YtmhigipljplgdaaDoorKyM
namespace Go.Proofs.YtmhigipljplgdaaDoor
open Go.ChangeShapes Go.WideShapes Go.ChangeAt Go.RowKit
set_option linter.unusedVariables false

section
variable {w w' : World} {v : Value} {ks : Ks} {S : List Nat} {A : Option Addr} {n c : Nat}
/-- An append onto a slice that has no room: a row anew, where anything comes behind. -/
theorem run_append_cut (ty : TypeId) (h : RdK w A n n ks) {B : Option Addr} {m d : Nat} {ms : Ks} (hr : RdK w B m d ms) (hlen : n + m ≤ 1000000000000) :
    ∃ v' w', (Builtin.append_ #[22, 22] ty #[.slice A n n, .slice B m d]).run Tryd.prog w = .ok v' w' ∧ Kept [] w w' ∧
      ((ms = [] ∧ v' = .slice A n n ∧ w' = w) ∨ (OwK w' v' (ks ++ ms) ∧ ∀ g, v'.ownBlock = some g → w.heap.size ≤ g)) := by
  obtain ⟨i, hi, hz, hsz, hby⟩ := infoK
  have ht := Tryd.underlying22
  have b1 := h.most
  unfold maxLen at b1
  rcases Nat.eq_zero_or_pos m with h0 | h0
  · subst h0
    have hn : ms = [] := List.eq_nil_of_length_eq_zero hr.len
    refine ⟨.slice A n n, w, ?_, Kept.refl _ _, .inl ⟨hn, rfl, rfl⟩⟩
    rcases A with _ | a
    · rcases B with _ | b
      · simp [Builtin.append_, run_underlying ht, sizeOf, typeInfo, hi, Builtin.lenOf, Builtin.firstCells]
      · simp [Builtin.append_, run_underlying ht, sizeOf, typeInfo, hi, Builtin.lenOf, Builtin.firstCells, loadCells, loadCellsFrom]
    · rcases B with _ | b
      · simp [Builtin.append_, run_underlying ht, sizeOf, typeInfo, hi, Builtin.lenOf, Builtin.firstCells, storeCells]
      · simp [Builtin.append_, run_underlying ht, sizeOf, typeInfo, hi, Builtin.lenOf, Builtin.firstCells, loadCells, loadCellsFrom, storeCells]
  · obtain ⟨b, off, rfl, _⟩ := hr.cells h0
    rcases A with _ | a
    · have hn0 : n = 0 := by
        rcases Nat.eq_zero_or_pos n with h1 | h1
        · exact h1
        · obtain ⟨b, off, e, _⟩ := h.cells h1
          cases e
      subst hn0
      have hks : ks = [] := List.eq_nil_of_length_eq_zero h.len
      subst hks
      obtain ⟨v', w', hrun, h2, h3, h4⟩ := run_append_keys ty (OwK.nil w) hr (by simp only [List.length_nil]; omega)
      refine ⟨v', w', hrun, h3.mono (by simp [Value.ownBlock]), .inr ⟨h2, fun g hg => ?_⟩⟩
      rcases h4 g hg with h5 | h5
      · simp [Value.ownBlock] at h5
      · exact h5
    · have hL : (ks ++ ms).length = n + m := by rw [List.length_append, h.len, hr.len]
      have hrun := run_append_grow (P := Tryd.prog) w 22 ty 32 i (.agg (zb 32).toArray) ht hi hz a n n (bvs ks.flatten) (by rw [bvs_length, kflat_len h.each, h.len, hsz]) h.news ⟨b, off, none⟩ m d (bvs ms.flatten)
        (by rw [bvs_length, kflat_len hr.each, hr.len, hsz]) hr.news (by omega) (by omega) (growslice_fits (by omega) (by rw [hby]; omega))
      have hge := grownCap_ge w (n + m) n 32
      have hcm : grownCap w (n + m) n 32 ≤ maxLen := grownCap_le_maxLen w (n + m) n 32 (by simp only [maxLen]; omega)
      refine ⟨_, _, hrun, ((Kept.refl [] w).drew).alloc _, .inr ⟨⟨h.each.append hr.each, ?_, .inr ⟨w.heap.size, grownCap w (n + m) n 32, _, by rw [hL], Nat.zero_le _, heap_alloc_new w.drew _, by rw [hL]; exact hge, hcm, ?_, ?_⟩⟩, ?_⟩⟩
      · rw [bvs_length, kflat_len (h.each.append hr.each)]
      · have hzs : (Value.agg (zb 32).toArray).cells.size = 32 := rfl
        simp only [Array.size_append, List.size_toArray, size_zeroCells, hzs, bvs_length, kflat_len h.each, kflat_len hr.each, h.len, hr.len]
        omega
      · rw [List.flatten_append, bvs_append, hL]
        simp only [Array.toList_append, List.append_assoc]
        rw [← List.append_assoc]
        have hl2 : (n + m) * 32 = (bvs ks.flatten ++ bvs ms.flatten).length := by rw [List.length_append, bvs_length, bvs_length, kflat_len h.each, kflat_len hr.each, h.len, hr.len]; omega
        rw [hl2]
        exact List.take_left
      · intro g hg
        simp [Value.ownBlock] at hg
        omega

/-- What is left, as a struct bears it: a row of its own, or one that has no room. -/
def LvK (w : World) (v : Value) (ks : Ks) : Prop := OwK w v ks ∨ ∃ A n, v = .slice A n n ∧ RdK w A n n ks ∧ ∀ g, v.ownBlock = some g → g < w.heap.size
theorem LvK.form (h : LvK w v ks) : ∃ A n c, v = .slice A n c ∧ RdK w A n c ks ∧ ∀ g, v.ownBlock = some g → g < w.heap.size := by
  rcases h with h | ⟨A, n, rfl, hr, hb⟩
  · exact h.form
  · exact ⟨A, n, n, rfl, hr, hb⟩
theorem off_own (h : ∀ g, (Value.slice A n c).ownBlock = some g → g ∉ S) : Off A S := fun a ha => by
  subst ha
  exact h a.block rfl
theorem LvK.kept (h : LvK w v ks) (hk : Kept S w w') (hS : ∀ g, v.ownBlock = some g → g ∉ S) : LvK w' v ks := by
  rcases h with h | ⟨A, n, rfl, hr, hb⟩
  · exact .inl (h.kept hk hS)
  · exact .inr ⟨A, n, rfl, hr.kept hk (fun _ => off_own hS), fun g hg => hk.lt (hb g hg)⟩
theorem LvK.kept0 (h : LvK w v ks) (hk : Kept [] w w') : LvK w' v ks := h.kept hk (fun _ _ => by simp)
theorem add_block (a : Addr) (k : Nat) : (a.add k).block = a.block := by unfold Addr.add; split <;> rfl
/-- What is left of it behind a place, cut so that it has no room. -/
theorem LvK.cut (h : LvK w (.slice A n c) ks) (k : Nat) (z : Int) (hz : z = (k : Int)) (hk : k ≤ n) :
    ∃ A', LvK w (.slice A' (n - k) (n - k)) (ks.drop k) ∧ (Value.slice A' (n - k) (n - k)).ownBlock = (Value.slice A n c).ownBlock ∧
      ∀ W, (Instr.slice 22 (.slice A n c) (some (.int .i64 z)) (some (.int .i64 (n : Int))) (some (.int .i64 (n : Int)))).run Tryd.prog W = .ok (.slice A' (n - k) (n - k)) W := by
  subst hz
  obtain ⟨A1, n1, c1, e, hr, hb⟩ := h.form
  injection e with e1 e2 e3
  subst e1 e2 e3
  have hcap := hr.cap
  have hB : (Value.slice (if n = k then A else A.map (·.add (k * 32))) (n - k) (n - k)).ownBlock = (Value.slice A n c).ownBlock := by
    rcases A with _ | a
    · simp [Value.ownBlock]
    · split
      · rfl
      · simp [Value.ownBlock, add_block]
  refine ⟨if n = k then A else A.map (·.add (k * 32)), .inr ⟨_, _, rfl, (hr.narrow n (Nat.le_refl _) hcap).drop k hk, fun g hg => hb g (by rw [← hB]; exact hg)⟩, hB, fun W => ?_⟩
  rw [run_slice_lhm (P := Tryd.prog) W 22 A n c und_lk .i64 .i64 .i64 (k : Int) (n : Int) (n : Int) (by omega) (by omega) (by omega) (by omega), size_key W]
  simp [sliced, Result.andThen]
/-- append(row, keys...), whatever the row is, whatever the source is. -/
theorem run_append_lv (ty : TypeId) (h : LvK w v ks) {B : Option Addr} {m d : Nat} {ms : Ks} (hr : RdK w B m d ms) (hlen : ks.length + m ≤ 1000000000000) :
    ∃ v' w', (Builtin.append_ #[22, 22] ty #[v, .slice B m d]).run Tryd.prog w = .ok v' w' ∧ LvK w' v' (ks ++ ms) ∧ Kept v.ownBlock.toList w w' ∧ Moved w v v' := by
  rcases h with h | ⟨A, n, rfl, h, hb⟩
  · obtain ⟨v', w', h1, h2, h3, h4⟩ := run_append_keys ty h hr hlen
    exact ⟨v', w', h1, .inl h2, h3, h4⟩
  · obtain ⟨v', w', h1, h2, h3⟩ := run_append_cut ty h hr (by rw [← h.len]; exact hlen)
    refine ⟨v', w', h1, ?_, h2.mono (by simp), ?_⟩
    · rcases h3 with ⟨rfl, rfl, rfl⟩ | ⟨h3, _⟩
      · rw [List.append_nil]
        exact .inr ⟨A, n, rfl, h, hb⟩
      · exact .inl h3
    · rcases h3 with ⟨rfl, rfl, rfl⟩ | ⟨_, h3⟩
      · exact Moved.refl _ _
      · exact fun g hg => .inr (h3 g hg)
theorem wpList_append_lv {ops : Array Oper} {rest : List Oper} {o : Oper} {a : Act} {Q : Exit → Act → World → Prop} (hgd : o.guard = none) (s x : Operand)
    (ho : o.op = .call { callee := .builtin .append, args := #[s, x], argTypes := #[22, 22] }) (v : Value) (ks : Ks) (hs : a.eval s = v) (hown : LvK w v ks)
    (A : Option Addr) (m c : Nat) (ms : Ks) (hx : a.eval x = .slice A m c) (hr : RdK w A m c ms) (hlen : ks.length + m ≤ 1000000000000)
    (h : ∀ v' w', LvK w' v' (ks ++ ms) → Kept v.ownBlock.toList w w' → Moved w v v' → wpList Tryd.prog ops Q rest (a.put o.dst v') w') : wpList Tryd.prog ops Q (o :: rest) a w := by
  refine wpList_plain hgd fun K hK => ?_
  obtain ⟨v', w', hrun, h2, h3, h4⟩ := run_append_lv o.type hown hr hlen
  unfold Oper.wp execOp
  simp only [ho, resolve, invoke, builtin, Sem.run_bind, Sem.run_pure, Result.andThen_ok, List.map_toArray, List.map_cons, List.map_nil, hs, hx, hrun]
  exact hK _ _ (h v' w' h2 h3 h4)
end
end Go.Proofs.YtmhigipljplgdaaDoor
