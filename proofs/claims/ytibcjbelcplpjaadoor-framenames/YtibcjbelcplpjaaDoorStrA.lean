/-
  Strings in walks, going on: one behind the other. Nothing of the program here.
-/
import Derived.Test.YtibcjbelcplpjaaDoorStr
import Derived.Test.YtibcjbelcplpjaaDoorStrU
import Derived.Laws.Concat
namespace Go.Proofs.YtibcjbelcplpjaaDoor
open Go.RowKit
set_option linter.unusedVariables false

theorem str_add (a b c : ByteArray) (h : strL c = strL a ++ strL b) : a ++ b = c := by
  apply ByteArray.ext
  rw [ByteArray.data_append, ← Array.toList_inj, Array.toList_append]
  exact h.symm
theorem str_mk (l : List UInt8) : ∃ s : ByteArray, strL s = l := ⟨⟨l.toArray⟩, rfl⟩
theorem str_of (s : ByteArray) (l : List UInt8) (h : strL s = l) : (⟨l.toArray⟩ : ByteArray) = s := by subst h; rfl
theorem add_rule {P : Program} (a b c : ByteArray) (h : strL c = strL a ++ strL b) (ha : a.size ≤ 2000000) (hb : b.size ≤ 2000000) (v : World) : (Op.stringOp .add a b).run P v = .ok (.string c) v := by
  rw [run_string_add_sum v a b (by omega), str_add a b c h]
section
variable {P : Program} {w : World}
/-- string(b), as an operation. -/
theorem wpList_to_str {ops : Array Oper} {rest : List Oper} {o : Oper} {a : Act} {Q : Exit → Act → World → Prop} (hgd : o.guard = none) (src dst e : TypeId) (x : Operand) (ho : o.op = .convert src dst x)
    (A : Option Addr) (n c : Nat) (bs : List UInt8) (hx : a.eval x = .slice A n c) (hr : RdB w A n c bs) (hs : P.underlying src = some (.slice e)) (he : P.underlying e = some (.int .u8)) (hd : P.underlying dst = some .string)
    (h : wpList P ops Q rest (a.put o.dst (.string ⟨bs.toArray⟩)) w) : wpList P ops Q (o :: rest) a w := by
  refine wpList_plain hgd fun K hK => ?_
  have hrun := run_str_rdb (P := P) (w := w) src dst e hr hs he hd
  unfold Oper.wp execOp
  simp only [ho, hx, Sem.run_bind, Sem.run_pure, Result.andThen_ok, hrun]
  exact hK _ _ h
end
theorem strL_mk (l : List UInt8) : strL ⟨l.toArray⟩ = l := rfl
theorem size_mk (l : List UInt8) : (⟨l.toArray⟩ : ByteArray).size = l.length := by simp [ByteArray.size]
end Go.Proofs.YtibcjbelcplpjaaDoor
