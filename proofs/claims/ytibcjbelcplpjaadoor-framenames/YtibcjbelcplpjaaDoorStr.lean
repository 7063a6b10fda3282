/-
  Strings in walks: their bytes as a list, []byte(s), append of a string's bytes, a range over a string. Nothing of the program here.
-/
import Derived.Test.YtibcjbelcplpjaaDoorMem
import Derived.Test.YtibcjbelcplpjaaDoorBlk
import Derived.Laws.IdiomStrings
import Derived.Laws.RangeAny
import Derived.Lib.OthersKept
namespace Go.Proofs.YtibcjbelcplpjaaDoor
open Go.RowKit
set_option linter.unusedVariables false

/-- A string's bytes. -/
def strL (s : ByteArray) : List UInt8 := s.data.toList
theorem strL_length (s : ByteArray) : (strL s).length = s.size := by simp [strL]
theorem strL_get (s : ByteArray) (k : Nat) (h : k < s.size) : (strL s)[k]? = some (s[k]'h) := by
  unfold strL
  rw [Array.getElem?_toList]
  exact Array.getElem?_eq_getElem _

section
variable {P : Program} {w : World}
theorem RdB.of_row (s : ByteArray) (cap : Nat) (e : TypeId) (z : Array Value) (fr : Nat × Nat) (hc : s.size ≤ cap) (hm : cap ≤ maxLen) :
    RdB (w.alloc (.cells (s.data.map (fun b => Value.int .u8 b.toNat) ++ z) e fr)) (some ⟨w.heap.size, 0, none⟩) s.size cap (strL s) := by
  refine ⟨strL_length s, hc, hm, fun hn => ⟨w.heap.size, 0, rfl, fun j hj => ?_⟩⟩
  rw [cell_of_row _ _ _ _ _ _ (heap_alloc_new w _)]
  rw [strL_length] at hj
  have hj2 : j < s.data.size := hj
  rw [Nat.zero_add, Array.getElem?_append_left (by simpa using hj2), Array.getElem?_map, Array.getElem?_eq_getElem hj2]
  simp [strL, bcell]
theorem wpList_conv_bytes {ops : Array Oper} {rest : List Oper} {o : Oper} {a : Act} {Q : Exit → Act → World → Prop} (hgd : o.guard = none) (src dst : TypeId) (x : Operand) (ho : o.op = .convert src dst x)
    (e : TypeId) (s : ByteArray) (hx : a.eval x = .string s) (hs : P.underlying src = some .string) (hd : P.underlying dst = some (.slice e)) (he : P.underlying e = some (.int .u8)) (hm : s.size ≤ maxLen)
    (h : ∀ c w', RdB w' (some ⟨w.heap.size, 0, none⟩) s.size c (strL s) → Kept [] w w' → w'.heap.size = w.heap.size + 1 → wpList P ops Q rest (a.put o.dst (.slice (some ⟨w.heap.size, 0, none⟩) s.size c)) w') : wpList P ops Q (o :: rest) a w := by
  refine wpList_plain hgd fun K hK => ?_
  have hrun := run_bytes_of_string (P := P) w src dst e s hs hd he
  unfold Oper.wp execOp
  simp only [ho, hx, Sem.run_bind, Sem.run_pure, Result.andThen_ok, hrun]
  refine hK _ _ (h _ _ ?_ ?_ ?_)
  · exact RdB.of_row (w := w.drew) s _ e _ _ (grownCap_ge _ _ _ _) (grownCap_le_maxLen _ _ _ _ hm)
  · exact ((Kept.refl [] w).drew).alloc _
  · simp
/-- append(nil, s...) -/
theorem wpList_append_nil_str {ops : Array Oper} {rest : List Oper} {o : Oper} {a : Act} {Q : Exit → Act → World → Prop} (hgd : o.guard = none) (x y : Operand) (t u : TypeId)
    (ho : o.op = .call { callee := .builtin .append, args := #[x, y], argTypes := #[t, u] })
    (e : TypeId) (i : TypeInfo) (ht : P.underlying t = some (.slice e)) (hu : P.underlying u = some .string) (hi : P.info? e = some i) (hz : i.zero = some (.int .u8 0)) (hby : i.bytes = 1)
    (hx : a.eval x = .slice none 0 0) (s : ByteArray) (hy : a.eval y = .string s) (h0 : 0 < s.size) (hm : s.size ≤ 1000000)
    (h : ∀ c w', OwB e w' (.slice (some ⟨w.heap.size, 0, none⟩) s.size c) (strL s) → Kept [] w w' → w'.heap.size = w.heap.size + 1 → wpList P ops Q rest (a.put o.dst (.slice (some ⟨w.heap.size, 0, none⟩) s.size c)) w') : wpList P ops Q (o :: rest) a w := by
  refine wpList_plain hgd fun K hK => ?_
  have hrun := run_append_nil_string (P := P) (w := w) t u o.type e i _ ht hu hi hz s h0 (by omega) (by rw [hby]; omega)
  have hc1 := grownCap_ge w s.size 0 e
  have hc2 := grownCap_le_maxLen w s.size 0 e (by simp only [maxLen]; omega)
  unfold Oper.wp execOp
  simp only [ho, resolve, invoke, builtin, Sem.run_bind, Sem.run_pure, Result.andThen_ok, List.map_toArray, List.map_cons, List.map_nil, hx, hy, hrun]
  refine hK _ _ (h _ _ ?_ ?_ ?_)
  · refine ⟨by rw [bvs_length, Nat.mul_one], .inr ⟨w.heap.size, _, _, ?_, Nat.zero_le _, heap_alloc_new w.drew _, ?_, hc2, ?_, ?_⟩⟩
    · rw [strL_length]
    · rw [strL_length]; exact hc1
    · simp [Builtin.zeroCells, Value.cells]
      have : s.data.size = s.size := rfl
      omega
    · rw [strL_length, Nat.mul_one, Array.toList_append, List.take_append_of_le_length (by simp), List.take_of_length_le (by simp)]
      simp [bvs, strL]
      intro b _
      rfl
  · exact ((Kept.refl [] w).drew).alloc _
  · simp
end
end Go.Proofs.YtibcjbelcplpjaaDoor
