/-
  append(row, make([]byte, n)...): noughts behind a byte row of the call's own. No statement of the seed is proved here.
-/
import Derived.Test.YtckffideobjlfaaDoorMem
namespace Go.Proofs.YtckffideobjlfaaDoor
open Go.RowKit
set_option linter.unusedVariables false

theorem zeroCells_one (z : Value) (m : Nat) : Builtin.zeroCells #[z] m = (List.replicate m z).toArray := by
  unfold Builtin.zeroCells
  apply Array.ext'
  apply List.ext_getElem
  · simp
  · intro i h1 h2
    simp [Nat.mod_one]

section
variable {P : Program} {w : World}
theorem run_append_zeros (t tx ty e : TypeId) (k : IntKind) (i : TypeInfo) (ht : P.underlying t = some (.slice e)) (htx : P.underlying tx = some (.int k)) (hi : P.info? e = some i) (hz : i.zero = some (.int .u8 0))
    (hsize : i.size = 1) (hby : i.bytes = 1) {v : Value} {xs : List UInt8} (hown : OwB e w v xs) (kx : IntKind) (x : Int) (m : Nat) (hx : x = (m : Int)) (hm : m ≤ 1000000) (hn : xs.length ≤ 1000000) :
    ∃ v' w', (Builtin.append_ #[t, tx] ty #[v, .int kx x]).run P w = .ok v' w' ∧ OwB e w' v' (xs ++ List.replicate m 0) ∧ Kept v.ownBlock.toList w w' ∧ Moved w v v' := by
  subst hx
  have hwr : IntKind.i64.wrap (m : Int) = (m : Int) := IntWalk.i64_in (m : Int) (by omega)
  have hint : ∀ W : World, (asInt (.int kx (m : Int))).run P W = .ok (m : Int) W := fun W => by simp [asInt, asIntOf]
  have hneg : ¬ ((m : Int) < 0) := by omega
  have hbig : ¬ ((m : Int) > 281474976710656) := by omega
  have hzc : Builtin.zeroCells (Value.int .u8 0).cells m = (bvs (List.replicate m 0)).toArray := by
    rw [bvs_zeros]; exact zeroCells_one _ m
  have hm0 : ∀ W : World, (if m * 1 = 0 then (pure #[] : Sem (Array Value)) else (do pure (Builtin.zeroCells (Value.int .u8 0).cells m))).run P W = .ok (bvs (List.replicate m 0)).toArray W := by
    intro W
    by_cases h0 : m = 0
    · subst h0; simp [bvs]
    · rw [if_neg (by omega), hzc]; simp
  have hlen : (bvs xs ++ bvs (List.replicate m 0)).length = (xs.length + m) * 1 := by rw [List.length_append, bvs_length, bvs_length, List.length_replicate]; omega
  have grown : ∀ (old : Nat), old < xs.length + m →
      OwB e (w.drew.alloc (.cells ((bvs xs).toArray ++ (bvs (List.replicate m 0)).toArray ++ Builtin.zeroCells (Value.int .u8 0).cells (grownCap w (xs.length + m) old e - (xs.length + m))) e))
        (.slice (some ⟨w.heap.size, 0, none⟩) (xs.length + m) (grownCap w (xs.length + m) old e)) (xs ++ List.replicate m 0) := by
    intro old ho
    have hge := grownCap_ge w (xs.length + m) old e
    have hcm : grownCap w (xs.length + m) old e ≤ maxLen := grownCap_le_maxLen w (xs.length + m) old e (by simp only [maxLen]; omega)
    unfold OwB
    rw [List.length_append, List.length_replicate, bvs_append]
    refine ⟨hlen, .inr ⟨w.heap.size, _, _, rfl, Nat.zero_le _, heap_alloc_new w.drew _, hge, hcm, ?_, ?_⟩⟩
    · simp only [Array.size_append, List.size_toArray, size_zeroCells, bvs_length, List.length_replicate]
      show xs.length + m + (grownCap w (xs.length + m) old e - (xs.length + m)) * 1 = _
      omega
    · simp only [Array.toList_append, List.append_assoc]
      rw [← List.append_assoc, ← hlen]
      exact List.take_left
  rcases hown.2 with ⟨rfl, hx0⟩ | ⟨g, cap, cur, rfl, hbg, hg, hnc, hcm, hcs, htake⟩
  · have hxs : xs = [] := List.eq_nil_of_length_eq_zero hx0
    subst hxs
    by_cases h0 : m = 0
    · subst h0
      refine ⟨.slice none 0 0, w, ?_, by simpa using hown, Kept.refl _ _, Moved.refl _ _⟩
      simp only [Int.natCast_zero] at hint hwr
      simp [Builtin.append_, run_underlying ht, run_underlying htx, sizeOf, typeInfo, hi, hby, hint, hwr]
    · have hgr := grown 0 (by simp; omega)
      simp only [List.length_nil, Nat.zero_add] at hgr
      refine ⟨_, _, ?_, hgr, ((Kept.refl _ w).drew).alloc _, fun g hg => .inr (by simp [Value.ownBlock] at hg; omega)⟩
      have hb63 : ¬ ((m : Int) > 9223372036854775807) := by omega
      have h48 : ¬ (281474976710656 < Builtin.nextslicecap m 0) := by rw [nextslicecap_zero (by omega)]; omega
      simp [Builtin.append_, run_underlying ht, run_underlying htx, sizeOf, typeInfo, zeroValue, hi, hz, hsize, hby, hint, hwr, hneg, hbig, h0, hb63, h48, Question.forced, run_firstCells_none, newRow, grownCap]
      rw [hzc]
      simp [bvs]
  · by_cases h0 : m = 0
    · subst h0
      refine ⟨_, w, ?_, by simpa using hown, Kept.refl _ _, Moved.refl _ _⟩
      simp only [Int.natCast_zero] at hint hwr
      simp [Builtin.append_, run_underlying ht, run_underlying htx, sizeOf, typeInfo, hi, hby, hint, hwr, hnc, storeCells]
    · by_cases hroom : xs.length + m ≤ cap
      · have hl : (bvs (List.replicate m 0)).length = m := by rw [bvs_length, List.length_replicate]
        have hfit : xs.length + (bvs (List.replicate m 0)).length ≤ cur.size := by rw [hl, hcs]; omega
        have hst := run_storeCells_at P g xs.length e (bvs (List.replicate m 0)) 0 cur w hg (by simpa using hfit) (bvs_one _)
        simp only [Nat.add_zero] at hst
        refine ⟨.slice (some ⟨g, 0, none⟩) (xs.length + m) cap, w.setRow g (cur.toList.take xs.length ++ bvs (List.replicate m 0) ++ cur.toList.drop (xs.length + (bvs (List.replicate m 0)).length)).toArray, ?_, ?_, ?_, fun j hj => .inl hj⟩
        rotate_left 2
        · exact ⟨rfl, rfl, rfl, by simp, fun j _ hj => setRow_other w g j _ (by simpa [Value.ownBlock] using hj)⟩
        rotate_left 1
        · unfold OwB
          rw [List.length_append, List.length_replicate, bvs_append]
          refine ⟨hlen, .inr ⟨g, cap, _, rfl, hbg, setRow_heap w g cur (cur.toList.take xs.length ++ bvs (List.replicate m 0) ++ cur.toList.drop (xs.length + (bvs (List.replicate m 0)).length)).toArray e _ hg, hroom, hcm, ?_, ?_⟩⟩
          · simp only [List.size_toArray, List.length_append, List.length_take, List.length_drop, Array.length_toList]
            omega
          · rw [Nat.mul_one] at htake
            rw [htake, ← hlen]
            exact List.take_left
        · simp [Builtin.append_, run_underlying ht, run_underlying htx, sizeOf, typeInfo, zeroValue, hi, hz, hsize, hby, hint, hwr, hneg, hbig, h0, hroom, hzc, Addr.add_lit, hst]
      · have hgr := grown cap (by omega)
        refine ⟨_, _, ?_, hgr, ((Kept.refl _ w).drew).alloc _, fun j hj => .inr (by simp [Value.ownBlock] at hj; omega)⟩
        have hb63 : ¬ (((xs.length : Int) + (m : Int)) > 9223372036854775807) := by omega
        have h48 : ¬ (281474976710656 < Builtin.nextslicecap (xs.length + m) cap) := by have := growslice_fits (bytes := 1) (show cap < xs.length + m by omega) (by omega); omega
        have hfo := run_firstCells_some (P := P) w.drew 1 xs.length ⟨g, 0, none⟩ xs.length cap (bvs xs) (by rw [bvs_length]; omega) (by simpa using World.ownsRow.cells (g := g) hown rfl)
        simp [Builtin.append_, run_underlying ht, run_underlying htx, sizeOf, typeInfo, zeroValue, hi, hz, hsize, hby, hint, hwr, hneg, hbig, h0, hroom, hb63, h48, Question.forced, hfo, newRow, grownCap]
        rw [hzc]
        congr 2
        apply Array.ext'
        simp [List.append_assoc]
theorem wpList_append_zeros {ops : Array Oper} {rest : List Oper} {o : Oper} {a : Act} {Q : Exit → Act → World → Prop} (hgd : o.guard = none) (s x : Operand) (t tx : TypeId)
    (ho : o.op = .call { callee := .builtin .append, args := #[s, x], argTypes := #[t, tx] })
    (e : TypeId) (k : IntKind) (i : TypeInfo) (ht : P.underlying t = some (.slice e)) (htx : P.underlying tx = some (.int k)) (hi : P.info? e = some i) (hz : i.zero = some (.int .u8 0)) (hsize : i.size = 1) (hby : i.bytes = 1)
    (v : Value) (xs : List UInt8) (hs : a.eval s = v) (hown : OwB e w v xs) (kx : IntKind) (z : Int) (m : Nat) (hx : a.eval x = .int kx z) (hz2 : z = (m : Int)) (hm : m ≤ 1000000) (hn : xs.length ≤ 1000000)
    (h : ∀ v' w', OwB e w' v' (xs ++ List.replicate m 0) → Kept v.ownBlock.toList w w' → Moved w v v' → wpList P ops Q rest (a.put o.dst v') w') : wpList P ops Q (o :: rest) a w := by
  refine wpList_plain hgd fun K hK => ?_
  obtain ⟨v', w', hrun, h2, h3, h4⟩ := run_append_zeros (P := P) (w := w) t tx o.type e k i ht htx hi hz hsize hby hown kx z m hz2 hm hn
  unfold Oper.wp execOp
  simp only [ho, resolve, invoke, builtin, Sem.run_bind, Sem.run_pure, Result.andThen_ok, List.map_toArray, List.map_cons, List.map_nil, hs, hx, hrun]
  exact hK _ _ (h v' w' h2 h3 h4)
/-- The same as a step of a region whose order is left open. -/
theorem step_append_zeros {ops : Array Oper} {o : Oper} {a : Act} {K : Act → World → Prop} {Q : Exit → Act → World → Prop} {E : Prop} (hgd : o.guard = none) (s x : Operand) (t tx : TypeId)
    (ho : o.op = .call { callee := .builtin .append, args := #[s, x], argTypes := #[t, tx] })
    (e : TypeId) (k : IntKind) (i : TypeInfo) (ht : P.underlying t = some (.slice e)) (htx : P.underlying tx = some (.int k)) (hi : P.info? e = some i) (hz : i.zero = some (.int .u8 0)) (hsize : i.size = 1) (hby : i.bytes = 1)
    (v : Value) (xs : List UInt8) (hs : a.eval s = v) (hown : OwB e w v xs) (kx : IntKind) (z : Int) (m : Nat) (hx : a.eval x = .int kx z) (hz2 : z = (m : Int)) (hm : m ≤ 1000000) (hn : xs.length ≤ 1000000)
    (h : ∀ v' w', OwB e w' v' (xs ++ List.replicate m 0) → Kept v.ownBlock.toList w w' → Moved w v v' → K (a.put o.dst v') w') :
    if Region.wanted o (yielded ops a.tmps) = true then Oper.wp P o a w K Q else E := by
  have hw : Region.wanted o (yielded ops a.tmps) = true := by simp [Region.wanted, hgd]
  rw [if_pos hw]
  obtain ⟨v', w', hrun, h2, h3, h4⟩ := run_append_zeros (P := P) (w := w) t tx o.type e k i ht htx hi hz hsize hby hown kx z m hz2 hm hn
  unfold Oper.wp execOp
  simp only [ho, resolve, invoke, builtin, Sem.run_bind, Sem.run_pure, Result.andThen_ok, List.map_toArray, List.map_cons, List.map_nil, hs, hx, hrun]
  exact h v' w' h2 h3 h4
end
end Go.Proofs.YtckffideobjlfaaDoor
