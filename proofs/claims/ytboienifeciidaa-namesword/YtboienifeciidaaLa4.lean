/-
  Walk of a law of layer 10: any text has its word, any word is its text or refused, there and back. No statement of the seed is proved here.
-/
import Derived.Test.YtboienifeciidaaLa1
import Derived.Test.YtboienifeciidaaNr7
import Derived.Test.YtboienifeciidaaNm6
namespace Go.Proofs.Ytboienifeciidaa
open Go.RowKit
set_option linter.unusedVariables false

theorem wordL_length (l : List UInt8) : (wordL l).length ≤ 3 * l.length := by
  induction l with
  | nil => simp [wordL]
  | cons b t ih =>
    have h1 : (wordB b).length ≤ 3 := by unfold wordB; split <;> simp
    have h2 : wordL (b :: t) = wordB b ++ wordL t := by simp [wordL]
    rw [h2, List.length_append, List.length_cons]
    omega
theorem textL_length {l x : List UInt8} (h : textL l = some x) : x.length ≤ l.length := by
  have := word_text h
  rw [← this]
  clear this h
  induction x with
  | nil => simp
  | cons b t ih =>
    have h1 : 1 ≤ (wordB b).length := by unfold wordB; split <;> simp
    have h2 : wordL (b :: t) = wordB b ++ wordL t := by simp [wordL]
    rw [h2, List.length_append, List.length_cons]
    omega
theorem strL_mk (l : List UInt8) : strL ⟨l.toArray⟩ = l := rfl
theorem str_eta (s : ByteArray) : (⟨(strL s).toArray⟩ : ByteArray) = s := rfl

set_option maxRecDepth 100000 in
set_option maxHeartbeats 8000000 in
theorem word10_walk (s u : ByteArray) (w : World) (hs0 : s.size ≤ maxLen) (hu0 : u.size ≤ maxLen) : Calls Try.prog 5 #[.string s, .string u] w fun e w' => e = .returned (.bool true) ∧ Kept [] w w' := by
  unfold maxLen at hs0 hu0
  by_cases h1 : 500 < s.size
  · go_enter Try.func5, Try.ntmps5
    go_wp2_with (go_at_call 7; refine (wakes10_any _).mono ?_; rintro e w1 ⟨rfl, hk1⟩)
    go_ret
    exact ⟨rfl, hk1⟩
  have h1' : s.size ≤ 500 := by omega
  by_cases h2 : 500 < u.size
  · go_enter Try.func5, Try.ntmps5
    go_wp2_with (go_at_call 7; refine (wakes10_any _).mono ?_; rintro e w1 ⟨rfl, hk1⟩)
    go_ret
    exact ⟨rfl, hk1⟩
  have h2' : u.size ≤ 500 := by omega
  obtain ⟨v, hv⟩ : ∃ v : ByteArray, (⟨(wordL (strL s)).toArray⟩ : ByteArray) = v := ⟨_, rfl⟩
  have hvl : strL v = wordL (strL s) := by rw [← hv]; rfl
  have hvs : v.size ≤ 1500 := by rw [← strL_length v, hvl]; have := wordL_length (strL s); rw [strL_length] at this; omega
  have HV : Hid ((.string ⟨(wordL (strL s)).toArray⟩ : Value) = .string v) := Lib.hid (by rw [hv])
  have HT : Hid (textV (textL (strL v)) = .tuple #[.string s, .int .i64 0]) := Lib.hid (by rw [hvl, text_word, textV_some, str_eta])
  clear hv hvl
  cases hx : textL (strL u) with
  | none =>
    have HX : Hid (textV (textL (strL u)) = .tuple #[.string ⟨#[]⟩, .int .i64 2]) := Lib.hid (by rw [hx, textV_none])
    clear hx
    go_enter Try.func5, Try.ntmps5
    go_wp2_with (first
      | (go_at_call 7; refine (wakes10_any _).mono ?_; rintro e w1 ⟨rfl, hk1⟩)
      | (go_at_call 14; refine (nWord_any s _ (by omega)).mono ?_; rw [HV.out]; rintro e w2 ⟨rfl, hk2⟩)
      | (go_at_call 15; with_reducible change Calls _ _ #[.string v] _ _; refine (nText_any v _ (by omega)).mono ?_; rw [HT.out]; rintro e w3 ⟨rfl, hk3⟩)
      | (go_at_call 15; with_reducible change Calls _ _ #[.string u] _ _; refine (nText_any u _ (by omega)).mono ?_; rw [HX.out]; rintro e w4 ⟨rfl, hk4⟩)
      | (go_at_call 16; refine (rText_any u _ (by omega)).mono ?_; rw [HX.out]; rintro e w5 ⟨rfl, hk5⟩)
      | (go_at_call 17; refine (rWord_any s _ (by omega)).mono ?_; rw [HV.out]; rintro e w6 ⟨rfl, hk6⟩))
    go_ret
    exact ⟨by first | rfl | simp, (((((hk1.andThen hk2).andThen hk3).andThen hk4).andThen hk5).andThen hk6)⟩
  | some x =>
    obtain ⟨y, hy⟩ : ∃ y : ByteArray, (⟨x.toArray⟩ : ByteArray) = y := ⟨_, rfl⟩
    have hyl : strL y = x := by rw [← hy]; rfl
    have hys : y.size ≤ 500 := by rw [← strL_length y, hyl]; have := textL_length hx; rw [strL_length] at this; omega
    have HX : Hid (textV (textL (strL u)) = .tuple #[.string y, .int .i64 0]) := Lib.hid (by rw [hx, textV_some, hy])
    have HY : Hid ((.string ⟨(wordL (strL y)).toArray⟩ : Value) = .string u) := Lib.hid (by rw [hyl, word_text hx, str_eta])
    clear hx hy hyl
    go_enter Try.func5, Try.ntmps5
    go_wp2_with (first
      | (go_at_call 7; refine (wakes10_any _).mono ?_; rintro e w1 ⟨rfl, hk1⟩)
      | (go_at_call 14; with_reducible change Calls _ _ #[.string s] _ _; refine (nWord_any s _ (by omega)).mono ?_; rw [HV.out]; rintro e w2 ⟨rfl, hk2⟩)
      | (go_at_call 15; with_reducible change Calls _ _ #[.string v] _ _; refine (nText_any v _ (by omega)).mono ?_; rw [HT.out]; rintro e w3 ⟨rfl, hk3⟩)
      | (go_at_call 15; with_reducible change Calls _ _ #[.string u] _ _; refine (nText_any u _ (by omega)).mono ?_; rw [HX.out]; rintro e w4 ⟨rfl, hk4⟩)
      | (go_at_call 16; refine (rText_any u _ (by omega)).mono ?_; rw [HX.out]; rintro e w5 ⟨rfl, hk5⟩)
      | (go_at_call 17; refine (rWord_any s _ (by omega)).mono ?_; rw [HV.out]; rintro e w6 ⟨rfl, hk6⟩)
      | (go_at_call 14; with_reducible change Calls _ _ #[.string y] _ _; refine (nWord_any y _ (by omega)).mono ?_; rw [HY.out]; rintro e w7 ⟨rfl, hk7⟩))
    go_ret
    exact ⟨by first | rfl | simp, ((((((hk1.andThen hk2).andThen hk3).andThen hk4).andThen hk5).andThen hk6).andThen hk7)⟩
end Go.Proofs.Ytboienifeciidaa
