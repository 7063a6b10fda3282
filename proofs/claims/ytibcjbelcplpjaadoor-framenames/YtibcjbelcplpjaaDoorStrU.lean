/-
  Strings in walks, going on: a string cut from a place on, concatenation, a string of a byte slice. Nothing of the program here.
-/
import Derived.Test.YtibcjbelcplpjaaDoorStr
import Derived.Laws.Strings3
namespace Go.Proofs.YtibcjbelcplpjaaDoor
open Go.RowKit
set_option linter.unusedVariables false

theorem strL_extract (s : ByteArray) (k : Nat) : strL (s.extract k s.size) = (strL s).drop k := by
  unfold strL
  rw [ByteArray.data_extract]
  have : s.size = s.data.size := rfl
  rw [this]
  simp only [Array.toList_extract, List.extract]
  exact List.take_of_length_le (by simp)
theorem str_from {P : Program} {t : TypeId} (s : ByteArray) (k : Nat) (hk : k ≤ s.size) (h : P.underlying t = some .string) : ∃ u : ByteArray, (∀ v, (Instr.slice t (.string s) (some (.int .i64 (k : Int))) none none).run P v = .ok (.string u) v) ∧ strL u = (strL s).drop k ∧ u.size = s.size - k := by
  refine ⟨s.extract k s.size, fun v => ?_, strL_extract s k, ?_⟩
  · rw [run_slice_string_from_if v t s .i64 _ h, if_pos ⟨by omega, by omega⟩]
    rfl
  · have := congrArg List.length (strL_extract s k)
    rw [strL_length, List.length_drop, strL_length] at this
    exact this
/-- string(b), whatever the slice. -/
theorem run_str_rdb {P : Program} {w : World} (src dst e : TypeId) {A : Option Addr} {n c : Nat} {bs : List UInt8} (hr : RdB w A n c bs) (hs : P.underlying src = some (.slice e)) (he : P.underlying e = some (.int .u8)) (hd : P.underlying dst = some .string) :
    (convert src dst (.slice A n c)).run P w = .ok (.string ⟨bs.toArray⟩) w := by
  have hl := hr.len
  cases A with
  | none =>
    have h0 : bs = [] := by
      rcases Nat.eq_zero_or_pos n with h0 | h0
      · subst h0; exact List.length_eq_zero_iff.1 hl
      · obtain ⟨b, off, e, _⟩ := hr.cells h0
        cases e
    subst h0
    rw [run_convert_bytes_string w src dst e none n c hs he hd]
    rfl
  | some a =>
    subst hl
    refine run_convert_bytes_back w src dst e a c bs hs he hd fun j hj => ?_
    have := hr.news j (bcell bs[j]) (by rw [bvs_get bs j hj])
    exact this
end Go.Proofs.YtibcjbelcplpjaaDoor
