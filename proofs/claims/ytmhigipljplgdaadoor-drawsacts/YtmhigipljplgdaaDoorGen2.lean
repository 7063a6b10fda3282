/-
  Digests held against each other; slices that are cut; texts that a constant is. No statement of the seed is proved here.
-/
import Derived.Test.YtmhigipljplgdaaDoorPc
import Derived.Stop.BytesEq
import Derived.Lib.SlBytesConst
import Derived.Deep.RegionHeld3
import Derived.OpenShut
namespace Go.Proofs.YtmhigipljplgdaaDoor
open Go.RowKit
set_option linter.unusedVariables false

theorem RdB.marked (w : World) (e : TypeId) (cs : Array Value) (fr : Nat × Nat) (n : Nat) (bs : List UInt8) (h : cs = (bvs bs).toArray) (hn : bs.length = n) (hm : n ≤ maxLen) : RdB (w.alloc (.cells cs e fr)) (some ⟨w.heap.size, 0, none⟩) n n bs := by
  subst h
  refine ⟨hn, Nat.le_refl _, hm, fun _ => ⟨w.heap.size, 0, rfl, fun j hj => ?_⟩⟩
  rw [cell_of_row _ _ _ _ _ _ (heap_alloc_new w _), Nat.zero_add]
  have := bvs_get bs j hj
  simpa using this
/-- Two digests, held against each other. -/
theorem wpList_eql_key {w : World} {ops : Array Oper} {rest : List Oper} {o : Oper} {a : Act} {Q : Exit → Act → World → Prop} (hgd : o.guard = none) (x y : Operand) (u : TypeId) (ho : o.op = .binOp .eql 32 x y u)
    (l m : List UInt8) (hl : l.length = 32) (hm : m.length = 32) (hx : a.eval x = .agg (bvs l).toArray) (hy : a.eval y = .agg (bvs m).toArray)
    (h : wpList Tryd.prog ops Q rest (a.put o.dst (.bool (l == m))) w) : wpList Tryd.prog ops Q (o :: rest) a w := by
  refine wpList_plain hgd fun K hK => ?_
  have hg := run_eqGuard_agg (P := Tryd.prog) w .eql 32 x y (bvs l).toArray (bvs m).toArray (by kernel_rfl)
  have he := run_eql_bytes (P := Tryd.prog) w 32 5 32 arr32b Tryd.underlying5 (fun W => by
    have h1 := size1b
    cases hq : Tryd.prog.info? 5 with
    | none => simp [hq] at h1
    | some i =>
      have hi : i.size = 1 := by simpa [hq] using h1
      simp [sizeOf, typeInfo, hq, hi]) l m hl hm
  unfold Oper.wp execOp
  simp only [ho, hx, hy, Sem.run_bind, hg, Result.andThen_ok]
  have he2 : (binOp .eql 32 (.agg (bvs l).toArray) (.agg (bvs m).toArray)).run Tryd.prog w = .ok (.bool (l == m)) w := he
  rw [he2]
  exact hK _ _ h

theorem RdL.three {w : World} {A1 A2 A3 : Option Addr} {n1 n2 n3 c1 c2 c3 : Nat} {b1 b2 b3 : List UInt8} (e : TypeId) (h1 : RdB w A1 n1 c1 b1) (h2 : RdB w A2 n2 c2 b2) (h3 : RdB w A3 n3 c3 b3) :
    RdL (w.alloc (.cells #[.slice A1 n1 c1, .slice A2 n2 c2, .slice A3 n3 c3] e)) (some ⟨w.heap.size, 0, none⟩) 3 3 [b1, b2, b3] := by
  refine ⟨rfl, Nat.le_refl _, by simp [maxLen], fun _ => ⟨w.heap.size, 0, rfl, by simp, fun j hj => ?_⟩⟩
  have hj3 : j = 0 ∨ j = 1 ∨ j = 2 := by simp at hj; omega
  rcases hj3 with rfl | rfl | rfl
  · exact ⟨A1, n1, c1, by rw [cell_of_row _ _ _ _ _ _ (heap_alloc_new w _)]; rfl, h1.alloc _⟩
  · exact ⟨A2, n2, c2, by rw [cell_of_row _ _ _ _ _ _ (heap_alloc_new w _)]; rfl, h2.alloc _⟩
  · exact ⟨A3, n3, c3, by rw [cell_of_row _ _ _ _ _ _ (heap_alloc_new w _)]; rfl, h3.alloc _⟩

theorem run_equalIn_key (l : List UInt8) (hl : l.length = 32) (W : World) : (Op.equalIn 10000 32 (.agg (bvs l).toArray) (.agg (bvs l).toArray)).run Tryd.prog W = .ok true W := by
  have he := run_equalIn_bytes (P := Tryd.prog) W 9998 32 5 32 arr32b Tryd.underlying5 (fun W => by
    have h1 := size1b
    cases hq : Tryd.prog.info? 5 with
    | none => simp [hq] at h1
    | some i =>
      have hi : i.size = 1 := by simpa [hq] using h1
      simp [sizeOf, typeInfo, hq, hi]) l l hl hl
  rw [show (l == l) = true by simp] at he
  exact he
theorem flat_le (ls : List (List UInt8)) (b : Nat) (h : ∀ l ∈ ls, l.length ≤ b) : ls.flatten.length ≤ ls.length * b := by
  induction ls with
  | nil => simp
  | cons x l ih =>
    have h1 := h x (by simp)
    have h2 := ih (fun y hy => h y (by simp [hy]))
    rw [List.flatten_cons, List.length_append, List.length_cons, Nat.succ_mul]
    omega
theorem infoB : (Tryd.prog.info? 53).map (fun i => (i.zero, i.size, i.bytes)) = some (some (.slice none 0 0), 1, 24) := by kernel_rfl

section
variable {P : Program} {w : World} {A : Option Addr} {n c : Nat} {vs : List Value}
theorem RdV.cutFrom (h : RdV w A n c vs) (t e : TypeId) (ht : P.underlying t = some (.slice e)) (hs : (P.info? e).map (·.size) = some 1) (k : Nat) (z : Int) (hz : z = (k : Int)) (hk : k ≤ n) :
    ∃ A', RdV w A' (n - k) (c - k) (vs.drop k) ∧ ∀ W, (Instr.slice t (.slice A n c) (some (.int .i64 z)) none none).run P W = .ok (.slice A' (n - k) (c - k)) W := by
  subst hz
  have hcap := h.cap
  refine ⟨_, h.drop k hk, fun W => ?_⟩
  have he : P.elem t = e := by simp [Program.elem, ht]
  rw [run_slice_l (P := P) W t A n c (by rw [he]; exact ht) .i64 (k : Int) (by omega) (by omega), size_of_elem t e ht hs W]
  simp [sliced, Result.andThen]
theorem RdV.cutTo (h : RdV w A n c vs) (t e : TypeId) (ht : P.underlying t = some (.slice e)) (hs : (P.info? e).map (·.size) = some 1) (k : Nat) (z : Int) (hz : z = (k : Int)) (hk : k ≤ n) :
    ∃ A', RdV w A' k c (vs.take k) ∧ ∀ W, (Instr.slice t (.slice A n c) none (some (.int .i64 z)) none).run P W = .ok (.slice A' k c) W := by
  subst hz
  have hcap := h.cap
  have h0 := (h.drop 0 (by omega)).take k (by omega)
  rw [List.drop_zero, Nat.sub_zero] at h0
  refine ⟨_, h0, fun W => ?_⟩
  have he : P.elem t = e := by simp [Program.elem, ht]
  rw [run_slice_h (P := P) W t A n c (by rw [he]; exact ht) .i64 (k : Int) (by omega) (by omega), size_of_elem t e ht hs W]
  simp [sliced, Result.andThen]
end

end Go.Proofs.YtmhigipljplgdaaDoor
