/-
  Contracts of layer 10 (names): a text's word. No statement of the seed is proved here.
-/
import Derived.Test.YtboienifeciidaaDoorNm3
namespace Go.Proofs.YtboienifeciidaaDoor
open Go.RowKit
set_option linter.unusedVariables false

theorem word_at (l : List UInt8) (k : Nat) (b : UInt8) (h : l[k]? = some b) : wordL (l.drop k) = wordB b ++ wordL (l.drop (k + 1)) := by
  obtain ⟨hk, hb⟩ := List.getElem?_eq_some_iff.1 h
  rw [List.drop_eq_getElem_cons hk, hb]
  simp [wordL]
theorem dig_idx' : ∀ n : Fin 16, ((⟨#[48, 49, 50, 51, 52, 53, 54, 55, 56, 57, 97, 98, 99, 100, 101, 102]⟩ : ByteArray)[n.val]'(n.isLt)) = digB n.val := by decide +kernel
theorem dig_idx (n : Nat) (h : n < (⟨#[48, 49, 50, 51, 52, 53, 54, 55, 56, 57, 97, 98, 99, 100, 101, 102]⟩ : ByteArray).size) : ((⟨#[48, 49, 50, 51, 52, 53, 54, 55, 56, 57, 97, 98, 99, 100, 101, 102]⟩ : ByteArray)[n]'h) = digB n := dig_idx' ⟨n, h⟩
theorem str_at (s : ByteArray) (k : Nat) (h : k < s.size) : ∃ b, (strL s)[k]? = some b := ⟨_, List.getElem?_eq_getElem (by rw [strL_length]; exact h)⟩

set_option maxRecDepth 100000 in
set_option maxHeartbeats 4000000 in
theorem nWord_any (s : ByteArray) (w : World) (hs : s.size ≤ 1000000) : Calls Tryd.prog 8 #[.string s] w fun e w' => e = .returned (.string ⟨(wordL (strL s)).toArray⟩) ∧ Kept [] w w' := by
  obtain ⟨T, hT⟩ : ∃ T, wordL (strL s) = T := ⟨_, rfl⟩
  rw [hT]
  have HT := Lib.hid hT
  clear hT
  go_enter Tryd.func8, Tryd.ntmps8
  go_wp2
  go_loopw [7] (fun n wr => ∃ (k : Nat) (acc : List UInt8), k ≤ s.size ∧ n = .int .i64 k ∧ Lib.IsBuilderF 39 5 w.heap.size w.heap.size (Lib.byteCells acc) wr ∧ Below w.heap.size w wr ∧ w.heap.size ≤ wr.heap.size ∧ acc.length ≤ 3 * k ∧ Hid (acc ++ wordL ((strL s).drop k) = T)) (fun n _ => s.size - (intOf n).toNat)
  case atStart =>
    exact ⟨0, [], by omega, rfl, Lib.IsBuilderF.of (Lib.fresh_isBuilder 39 5 w), (Below.refl _ w).alloc (Nat.le_refl _) _, by simp, by simp, Lib.hid (by rw [List.drop_zero, HT.out]; rfl)⟩
  case round =>
    obtain ⟨k, acc, hks, rfl, hI, hbw, hsz, hal, Ha⟩ := hrel
    by_cases hp : k < s.size
    · obtain ⟨b, hb⟩ := str_at s k hp
      have hx : ∀ v, (Instr.index 9 (.string s) (.int .i64 (k : Int))).run Tryd.prog v = .ok (.int .u8 b.toNat) v := fun v => idx_str hp rfl hb Tryd.underlying9 v
      have hb8 := UInt8.toNat_lt b
      have Hw := Lib.hid (word_at _ _ _ hb)
      cases hself : selfB b with
      | true =>
        have HZ : Hid (selfZ (b.toNat : Int) = true) := Lib.hid (by rw [selfZ_byte]; exact hself)
        have Ha2 : Hid ((acc ++ [b]) ++ wordL ((strL s).drop (k + 1)) = T) := Lib.hid (by rw [← Ha.out, Hw.out, List.append_assoc]; unfold wordB; rw [if_pos hself])
        clear hself hb Hw Ha
        go_wp2_with (first | (go_at_call 15; refine (nSelf_any _ _).mono ?_; rw [HZ.out]; rintro e w' ⟨rfl, rfl⟩) | (go_at_call 16; refine (bByte_any w.heap.size w.heap.size _ _ _ hI (by rw [Lib.byteCells_length]; omega) hsz).mono ?_; rintro e W1 ⟨rfl, h1, b1, k1⟩))
        go_roundw
        case rel =>
          have := b1.size
          exact ⟨k + 1, acc ++ [b], by omega, by go_num, by rw [Lib.byteCells_append]; exact Or.inr h1, hbw.trans b1, by omega, by simp; omega, Ha2⟩
        case measure => simp [intOf]; omega
      | false =>
        have HZ : Hid (selfZ (b.toNat : Int) = false) := Lib.hid (by rw [selfZ_byte]; exact hself)
        clear hself hb
        go_wp2_with (first | (go_at_call 15; refine (nSelf_any _ _).mono ?_; rw [HZ.out]; rintro e w' ⟨rfl, rfl⟩) | (go_at_call 16; refine (bByte_any w.heap.size w.heap.size _ _ _ hI (by rw [Lib.byteCells_length]; omega) hsz).mono ?_; rintro e W1 ⟨rfl, h1, b1, k1⟩))
        have z1 := b1.size
        have hI1 := Or.inr (a := Lib.BuilderAtF 39 5 w.heap.size w.heap.size (.pointer none) (Lib.byteCells acc ++ [.int .u8 37]) W1) h1
        go_wp2_with (go_at_call 16; refine (bByte_any w.heap.size w.heap.size _ _ _ hI1 (by rw [List.length_append, Lib.byteCells_length]; simp; omega) (by omega)).mono ?_; rintro e W2 ⟨rfl, h2, b2, k2⟩)
        have z2 := b2.size
        have hI2 := Or.inr (a := Lib.BuilderAtF 39 5 w.heap.size w.heap.size (.pointer none) (Lib.byteCells acc ++ [.int .u8 37] ++ [.int .u8 ((((⟨#[48, 49, 50, 51, 52, 53, 54, 55, 56, 57, 97, 98, 99, 100, 101, 102]⟩ : ByteArray)[b.toNat / 16]'(by show b.toNat / 16 < 16; omega)).toNat : Nat) : Int)]) W2) h2
        go_wp2_with (go_at_call 16; refine (bByte_any w.heap.size w.heap.size _ _ _ hI2 (by rw [List.length_append, List.length_append, Lib.byteCells_length]; simp; omega) (by omega)).mono ?_; rintro e W3 ⟨rfl, h3, b3, k3⟩)
        have z3 := b3.size
        rw [dig_idx, dig_idx] at h3
        have h4 : Lib.IsBuilderF 39 5 w.heap.size w.heap.size (Lib.byteCells (acc ++ wordB b)) W3 := by
          rw [Lib.byteCells_append]
          unfold wordB
          rw [if_neg (by rw [← selfZ_byte, HZ.out]; simp)]
          refine Or.inr ?_
          simpa [Lib.byteCells] using h3
        have Ha2 : Hid ((acc ++ wordB b) ++ wordL ((strL s).drop (k + 1)) = T) := Lib.hid (by rw [← Ha.out, Hw.out, List.append_assoc])
        have hw3 : (wordB b).length ≤ 3 := by unfold wordB; split <;> simp
        clear h1 h2 h3 hI1 hI2 Ha Hw
        go_roundw
        case rel =>
          exact ⟨k + 1, acc ++ wordB b, by omega, by go_num, h4, hbw.trans (b1.trans (b2.trans b3)), by omega, by rw [List.length_append]; omega, Ha2⟩
        case measure => simp [intOf]; omega
    · have Ha2 : Hid (acc = T) := Lib.hid (by rw [← Ha.out, drop_end s k hp]; simp [wordL])
      clear Ha
      go_wp2_with (go_at_call 14; refine (bString_any w.heap.size w.heap.size acc _ hI hsz).mono ?_; rintro e W1 ⟨rfl, _, b1, _⟩)
      go_ret
      exact ⟨by rw [Ha2.out]; rfl, Kept.of_below (hbw.trans b1)⟩
end Go.Proofs.YtboienifeciidaaDoor
