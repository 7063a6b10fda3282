/-
  append of a slice of another named type of the same elements. Nothing of the program here.
-/
import Derived.Test.YtpnpimhfakfolaaMemV
namespace Go.Proofs.Ytpnpimhfakfolaa
open Go Go.RowKit
set_option linter.unusedVariables false
section
variable {P : Program} {w : World}
theorem run_append_types (t u ty e : TypeId) (ht : P.underlying t = some (.slice e)) (hu : P.underlying u = some (.slice e)) (B : Option Addr) (n d : Nat) (A : Option Addr) (m c : Nat) (w : World) :
    (Builtin.append_ #[t, u] ty #[.slice B n d, .slice A m c]).run P w = (Builtin.append_ #[t, t] ty #[.slice B n d, .slice A m c]).run P w := by
  unfold Builtin.append_
  simp [run_underlying ht, run_underlying hu]
theorem wpList_append_two {ops : Array Oper} {rest : List Oper} {o : Oper} {a : Act} {Q : Exit → Act → World → Prop} (hgd : o.guard = none) (s x : Operand) (t u : TypeId)
    (ho : o.op = .call { callee := .builtin .append, args := #[s, x], argTypes := #[t, u] })
    (e : TypeId) (i : TypeInfo) (z : Value) (bytes : Nat) (ht : P.underlying t = some (.slice e)) (hu : P.underlying u = some (.slice e)) (hi : P.info? e = some i) (hz : i.zero = some z)
    (hsize : i.size = 1) (hby : i.bytes = bytes) (hzs : z.cells.size = 1)
    (v : Value) (xs : List Value) (hs : a.eval s = v) (hown : OwV e w v xs)
    (A : Option Addr) (m c : Nat) (news : List Value) (hx : a.eval x = .slice A m c) (hr : RdV w A m c news) (h1 : ∀ u ∈ news, u.oneCell' = true)
    (h63 : xs.length + m ≤ maxLen) (hbytes : (xs.length + m) * bytes ≤ 140737488355328)
    (h : ∀ v' w', OwV e w' v' (xs ++ news) → Kept v.ownBlock.toList w w' → Moved w v v' → wpList P ops Q rest (a.put o.dst v') w') : wpList P ops Q (o :: rest) a w := by
  refine wpList_plain hgd fun K hK => ?_
  obtain ⟨v', w', hrun, h2, h3, h4⟩ := run_append_vals (P := P) (w := w) t o.type e i z bytes ht hi hz hsize hby hzs hown hr h1 h63 hbytes
  obtain ⟨B, n, d, rfl, _, _⟩ := hown.form
  rw [← run_append_types t u o.type e ht hu] at hrun
  unfold Oper.wp execOp
  simp only [ho, resolve, invoke, builtin, Sem.run_bind, Sem.run_pure, Result.andThen_ok, List.map_toArray, List.map_cons, List.map_nil, hs, hx, hrun]
  exact hK _ _ (h v' w' h2 h3 h4)
end
end Go.Proofs.Ytpnpimhfakfolaa
