/-
  Contracts of layer 10 (names): a name's plain form. No statement of the seed is proved here.
-/
import Derived.Test.YtboienifeciidaaDoorNm2
import Derived.BigCall
namespace Go.Proofs.YtboienifeciidaaDoor
open Go.RowKit
set_option linter.unusedVariables false

@[irreducible] def bstr (l : List UInt8) : Value := .string ⟨l.toArray⟩
@[irreducible] def plainV (l : List UInt8) : Value := if rightL l then .tuple #[.string ⟨(l.map lowB).toArray⟩, .int .i64 0] else .tuple #[.string ⟨#[]⟩, .int .i64 5]
theorem plainV_right {l : List UInt8} (h : rightL l = true) : plainV l = .tuple #[.string ⟨(l.map lowB).toArray⟩, .int .i64 0] := by unfold plainV; rw [if_pos h]
theorem plainV_wrong {l : List UInt8} (h : rightL l = false) : plainV l = .tuple #[.string ⟨#[]⟩, .int .i64 5] := by unfold plainV; rw [h]; rfl

set_option maxRecDepth 100000 in
set_option maxHeartbeats 4000000 in
theorem nPlain_any (s : ByteArray) (w : World) (hs : s.size ≤ 1000000) : Calls Tryd.prog 7 #[.string s] w fun e w' => e = .returned (plainV (strL s)) ∧ Kept [] w w' := by
  cases hR : rightL (strL s) with
  | false =>
    rw [plainV_wrong hR]
    have HR := Lib.hid hR
    clear hR
    go_enter Tryd.func7, Tryd.ntmps7
    go_wp2_with (go_at_call 11; refine (nRight_any s _ (by omega)).mono ?_; rw [HR.out]; rintro e w1 ⟨rfl, hk1⟩)
    go_ret2
    exact ⟨rfl, hk1⟩
  | true =>
    rw [plainV_right hR]
    have HT : Hid ((runesL (strL s)).flatMap (fun c => Lib.encodeRune (lowN c : Nat)) = (strL s).map lowB) := Lib.hid (runesL_write _ ((rightL_iff _).1 hR).whole)
    generalize (strL s).map lowB = T at *
    have HR := Lib.hid hR
    clear hR
    go_enter Tryd.func7, Tryd.ntmps7
    go_wp2_with (go_at_call 11; refine (nRight_any s _ (by omega)).mono ?_; rw [HR.out]; rintro e w1 ⟨rfl, hk1⟩)
    go_loopw [] (fun wr => ∃ (pos : Nat) (acc : List UInt8), Lib.IsBuilderF 39 5 w1.heap.size w1.heap.size (Lib.byteCells acc) wr ∧ wr.heap[w1.heap.size + 1]? = some (.stringIter s pos) ∧ Below w1.heap.size w1 wr ∧ pos ≤ s.size ∧ acc.length ≤ 4 * pos ∧ Hid (acc ++ (runesL ((strL s).drop pos)).flatMap (fun c => Lib.encodeRune (lowN c : Nat)) = T)) (fun wr => s.size - wr.iterPos (w1.heap.size + 1))
    case atStart =>
      refine ⟨0, [], (Lib.IsBuilderF.of (Lib.fresh_isBuilder 39 5 w1)).alloc _, ?_, ((Below.refl _ w1).alloc (Nat.le_refl _) _).alloc (by simp) _, by omega, by simp, Lib.hid (by rw [List.drop_zero, HT.out]; rfl)⟩
      have := World.iter_heap (w1.alloc (.cells #[.pointer none, .slice none 0 0] 39)) s 0
      simpa using this
    case round =>
      obtain ⟨pos, acc, hI, hit, hbw, hps, hal, Ha⟩ := hrel
      have hsz : w1.heap.size + 1 < wr.heap.size := (Array.getElem?_eq_some_iff.1 hit).1
      by_cases hp : pos < s.size
      · obtain ⟨c, d, hd, _, hd1, _, hd2, hc, hr⟩ := dec_at s pos hp
        have hnx : ∀ ty, (Instr.next (.pointer (some ⟨w1.heap.size + 1, 0, none⟩)) true ty).run Tryd.prog wr = .ok (.tuple #[.bool true, .int .i64 pos, .int .i32 c]) (wr.iterAt (w1.heap.size + 1) s (pos + d)) := fun ty => by
          rw [Lib.run_next_any_at wr (w1.heap.size + 1) s pos ty hit hp, hd]
        have hI2 := hI.iterAt hit (pos + d)
        have hit2 := Lib.iterAt_heap wr (w1.heap.size + 1) s pos (pos + d) hit
        have hbw2 := Lib.below_iterAt hbw (k := w1.heap.size + 1) (by omega) s (pos + d)
        have hsz2 : w1.heap.size ≤ (wr.iterAt (w1.heap.size + 1) s (pos + d)).heap.size := by rw [Lib.iterAt_size]; omega
        obtain ⟨z, hz⟩ : ∃ z, lowN c = z := ⟨_, rfl⟩
        have hzl : lowZ (c : Int) = (z : Int) := by rw [lowZ_rune, hz]
        have hzm : z ≤ 1114143 := by rw [← hz]; unfold lowN; split <;> omega
        have Ha2 : Hid ((acc ++ Lib.encodeRune (z : Nat)) ++ (runesL ((strL s).drop (pos + d))).flatMap (fun c => Lib.encodeRune (lowN c : Nat)) = T) := Lib.hid (by rw [← Ha.out, hr, List.flatMap_cons, hz, List.append_assoc])
        have HZ := Lib.hid hzl
        clear hzl hz hr hd Ha
        go_wp2_with (first | (go_at_call 13; refine (nPlainSign_any _ (by omega) (by omega) _).mono ?_; rw [HZ.out]; rintro e w' ⟨rfl, rfl⟩) | (go_at_call 12; refine (bRune_any w1.heap.size w1.heap.size _ _ (by omega) (by omega) _ hI2 (by rw [Lib.byteCells_length]; omega) hsz2).mono ?_; rintro e W1 ⟨rfl, h1, b1, k1⟩))
        go_roundw
        case rel =>
          have hl4 := Lib.runeCells_le (z : Int)
          rw [Lib.runeCells_length] at hl4
          refine ⟨pos + d, acc ++ Lib.encodeRune (z : Nat), ?_, k1.iter hit2 (by omega), hbw2.trans b1, by omega, by simp; omega, Ha2⟩
          rw [Lib.byteCells_append, Lib.byteCells_encodeRune]; exact Or.inr h1
        case measure =>
          simp only [World.iterPos, k1.iter hit2 (by omega), hit]
          omega
      · have hnx : ∀ ty, (Instr.next (.pointer (some ⟨w1.heap.size + 1, 0, none⟩)) true ty).run Tryd.prog wr = _ := fun ty => Lib.run_next_end_at wr (w1.heap.size + 1) s pos ty hit hp
        have Ha2 : Hid (acc = T) := Lib.hid (by rw [← Ha.out, drop_end s pos hp, runesL_nil]; simp)
        clear Ha
        go_wp2_with (go_at_call 14; refine (bString_any w1.heap.size w1.heap.size acc _ hI (by omega)).mono ?_; rintro e W1 ⟨rfl, _, b1, _⟩)
        go_ret2
        exact ⟨by rw [Ha2.out]; rfl, hk1.andThen (Kept.of_below (hbw.trans b1))⟩
end Go.Proofs.YtboienifeciidaaDoor
