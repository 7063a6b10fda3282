/-
  Contracts of layer 10 (names): the text of a word. No statement of the seed is proved here.
-/
import Derived.Test.YtboienifeciidaaNm5
import Derived.Test.YtboienifeciidaaStrU
namespace Go.Proofs.Ytboienifeciidaa
open Go.RowKit
set_option linter.unusedVariables false

theorem BuilderAtF.kept {T e : TypeId} {B b : Nat} {p : Value} {bs : List Value} {w w' : World} (h : Lib.BuilderAtF T e B b p bs w) (hk : Kept [] w w') : Lib.BuilderAtF T e B b p bs w' := by
  obtain ⟨hB, v, hb, hown, hne⟩ := h
  have hm : ∀ (k : Nat) (o : Obj), w.heap[k]? = some o → w'.heap[k]? = some o := fun k o hx => by
    rw [hk.block k (Array.getElem?_eq_some_iff.1 hx).1 (by simp)]; exact hx
  refine ⟨hB, v, hm b _ hb, ⟨hown.1, ?_⟩, hne⟩
  rcases hown.2 with hn | ⟨g, cap, cur, fz, hv, hbg, hg, rest⟩
  · exact .inl hn
  · exact .inr ⟨g, cap, cur, fz, hv, hbg, hm g _ hg, rest⟩
theorem IsBuilderF.kept {T e : TypeId} {B b : Nat} {bs : List Value} {w w' : World} (h : Lib.IsBuilderF T e B b bs w) (hk : Kept [] w w') : Lib.IsBuilderF T e B b bs w' :=
  h.elim (fun x => .inl (BuilderAtF.kept x hk)) (fun x => .inr (BuilderAtF.kept x hk))
def strOf : Value → ByteArray
  | .string t => t
  | _ => ⟨#[]⟩
@[irreducible] def textV : Option (List UInt8) → Value
  | some x => .tuple #[.string ⟨x.toArray⟩, .int .i64 0]
  | none => .tuple #[.string ⟨#[]⟩, .int .i64 2]
theorem textV_some (x : List UInt8) : textV (some x) = .tuple #[.string ⟨x.toArray⟩, .int .i64 0] := by unfold textV; rfl
theorem textV_none : textV none = .tuple #[.string ⟨#[]⟩, .int .i64 2] := by unfold textV; rfl

set_option maxRecDepth 100000 in
set_option maxHeartbeats 4000000 in
theorem nText_any (s : ByteArray) (w : World) (hs : s.size ≤ 1000000) : Calls Try.prog 15 #[.string s] w fun e w' => e = .returned (textV (textL (strL s))) ∧ Kept [] w w' := by
  obtain ⟨T, hT⟩ : ∃ T, textL (strL s) = T := ⟨_, rfl⟩
  rw [hT]
  have HT := Lib.hid hT
  clear hT
  go_enter Try.func15, Try.ntmps15
  go_wp2
  go_loopw [0] (fun n wr => ∃ (t : ByteArray) (acc : List UInt8), t.size ≤ 1000000 ∧ n = .string t ∧ Lib.IsBuilderF 37 5 w.heap.size w.heap.size (Lib.byteCells acc) wr ∧ Below w.heap.size w wr ∧ w.heap.size ≤ wr.heap.size ∧ acc.length + t.size ≤ 1000000 ∧ Hid (T = (textL (strL t)).map (acc ++ ·))) (fun n _ => (strOf n).size)
  case atStart =>
    exact ⟨s, [], hs, rfl, Lib.IsBuilderF.of (Lib.fresh_isBuilder 37 5 w), (Below.refl _ w).alloc (Nat.le_refl _) _, by simp, by simpa using hs, Lib.hid (by rw [HT.out]; simp)⟩
  case round =>
    obtain ⟨t, acc, hts, rfl, hI, hbw, hsz, hal, Ha⟩ := hrel
    by_cases hp : 0 < t.size
    · cases hf : firL (strL t) with
      | none =>
        have HF : Hid (firV (firL (strL t)) = .tuple #[.int .u8 0, .int .i64 0]) := Lib.hid (by rw [hf, firV_none])
        have HN : Hid (T = none) := Lib.hid (by rw [Ha.out, textL_bad (fun e => by have := strL_length t; rw [e] at this; simp at this; omega) hf]; rfl)
        clear hf Ha
        go_wp2_with (go_at_call 25; refine (nFirst_any t _ hp hts).mono ?_; rw [HF.out]; rintro e w1 ⟨rfl, hk1⟩)
        go_ret2
        exact ⟨by rw [HN.out, textV_none]; rfl, (Kept.of_below hbw).andThen hk1⟩
      | some p =>
        obtain ⟨x, k⟩ := p
        have hpk := firL_pos hf
        rw [strL_length] at hpk
        have HF : Hid (firV (firL (strL t)) = .tuple #[.int .u8 x.toNat, .int .i64 k]) := Lib.hid (by rw [hf, firV_some])
        obtain ⟨u, hu, hul, hus⟩ := str_from (P := Try.prog) (t := 9) t k hpk.2.1 Try.underlying9
        have Ha2 : Hid (T = (textL (strL u)).map ((acc ++ [x]) ++ ·)) := Lib.hid (by
          rw [Ha.out, textL_good hf, hul, Option.map_map]
          congr 1
          funext l
          simp)
        obtain ⟨z, hz⟩ : ∃ z : Int, (x.toNat : Int) = z := ⟨_, rfl⟩
        rw [hz] at HF
        have Hz := Lib.hid hz
        have hk0 : ¬ (k : Int) = 0 := by omega
        have hu2 : u.size < t.size := by omega
        have hu3 : acc.length + 1 + u.size ≤ 1000000 := by omega
        have hu4 : u.size ≤ 1000000 := by omega
        clear hf Ha hul hz hus
        go_wp2_with (go_at_call 25; refine (nFirst_any t _ hp hts).mono ?_; rw [HF.out]; rintro e w1 ⟨rfl, hk1⟩)
        have hI1 := IsBuilderF.kept hI hk1
        have hs1 := hk1.size
        have hb1 : Below w.heap.size w w1 := hbw.trans (hk1.below hsz (by simp))
        go_wp2_with (go_at_call 24; refine (bByte_any w.heap.size w.heap.size _ _ _ hI1 (by rw [Lib.byteCells_length]; omega) (by omega)).mono ?_; rintro e W2 ⟨rfl, h2, b2, k2⟩)
        have z2 := b2.size
        go_roundw
        case rel =>
          refine ⟨u, acc ++ [x], hu4, rfl, ?_, hb1.trans b2, by omega, by simp; omega, Ha2⟩
          rw [Lib.byteCells_append]
          rw [← Hz.out] at h2
          exact Or.inr h2
        case measure => simp only [strOf]; omega
    · have h0 : t.size = 0 := by omega
      have Ha2 : Hid (T = some acc) := Lib.hid (by
        rw [Ha.out, show strL t = [] from List.length_eq_zero_iff.1 (by rw [strL_length]; exact h0), textL_nil]; simp)
      clear Ha
      go_wp2_with (go_at_call 20; refine (bString_any w.heap.size w.heap.size acc _ hI hsz).mono ?_; rintro e W1 ⟨rfl, _, b1, _⟩)
      go_ret2
      exact ⟨by rw [Ha2.out, textV_some]; rfl, Kept.of_below (hbw.trans b1)⟩
end Go.Proofs.Ytboienifeciidaa
