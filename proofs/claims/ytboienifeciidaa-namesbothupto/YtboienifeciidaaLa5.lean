/-
  Walk of a law of layer 10: two names with a blank between. No statement of the seed is proved here.
-/
import Derived.Test.YtboienifeciidaaLa1
import Derived.Test.YtboienifeciidaaNr4
namespace Go.Proofs.Ytboienifeciidaa
open Go.RowKit
set_option linter.unusedVariables false

theorem bytes_of_runes (l : List UInt8) : l.length ≤ 4 * (runesL l).length := by
  refine rune_ind (Q := fun l => l.length ≤ 4 * (runesL l).length) (by simp) ?_ ?_ ?_ l
  · intro b t hb ih; rw [runesL_ascii b t hb]; simp; omega
  · intro b t hb hd ih; rw [runesL_bad hd]; simp; omega
  · intro c p t hp ih; rw [runesL_enc hp]; have := hp.2.1; simp; omega
theorem str_add (a b c : ByteArray) (h : strL c = strL a ++ strL b) : a ++ b = c := by
  apply ByteArray.ext
  rw [ByteArray.data_append, ← Array.toList_inj, Array.toList_append]
  exact h.symm
theorem str_mk (l : List UInt8) : ∃ s : ByteArray, strL s = l := ⟨⟨l.toArray⟩, rfl⟩
theorem str_of (s : ByteArray) (l : List UInt8) (h : strL s = l) : (⟨l.toArray⟩ : ByteArray) = s := by subst h; rfl
theorem add_rule {P : Program} (a b c : ByteArray) (h : strL c = strL a ++ strL b) (ha : a.size ≤ 2000000) (hb : b.size ≤ 2000000) (v : World) : (Op.stringOp .add a b).run P v = .ok (.string c) v := by
  rw [run_string_add_sum v a b (by omega), str_add a b c h]
theorem wordL_append (a b : List UInt8) : wordL (a ++ b) = wordL a ++ wordL b := by simp [wordL]
theorem wordL_le (l : List UInt8) : (wordL l).length ≤ 3 * l.length := by
  induction l with
  | nil => simp [wordL]
  | cons b t ih =>
    have h1 : (wordB b).length ≤ 3 := by unfold wordB; split <;> simp
    have h2 : wordL (b :: t) = wordB b ++ wordL t := by simp [wordL]
    rw [h2, List.length_append, List.length_cons]
    omega

set_option maxRecDepth 100000 in
set_option maxHeartbeats 8000000 in
theorem both10_walk (a b : ByteArray) (w : World) (ha : a.size ≤ 1048576) (hb : b.size ≤ 1048576) : Calls Try.prog 6 #[.string a, .string b] w fun e w' => e = .returned (.bool true) ∧ Kept [] w w' := by
  cases hRa : rightL (strL a) with
  | false =>
    have HA := Lib.hid hRa
    clear hRa
    go_enter Try.func6, Try.ntmps6
    go_wp2_with (first
      | (go_at_call 7; refine (wakes10_any _).mono ?_; rintro e w1 ⟨rfl, hk1⟩)
      | (go_at_call 11; refine (rRight_any a _ (by omega)).mono ?_; rw [HA.out]; rintro e w2 ⟨rfl, hk2⟩))
    go_ret
    exact ⟨rfl, hk1.andThen hk2⟩
  | true =>
  cases hRb : rightL (strL b) with
  | false =>
    have HA := Lib.hid hRa
    have HB := Lib.hid hRb
    obtain ⟨c, hc⟩ : ∃ c, c = b := ⟨_, rfl⟩
    rw [← hc] at HB hb ⊢
    clear hRa hRb hc
    go_enter Try.func6, Try.ntmps6
    go_wp2_with (first
      | (go_at_call 7; refine (wakes10_any _).mono ?_; rintro e w1 ⟨rfl, hk1⟩)
      | (go_at_call 11; with_reducible change Calls _ _ #[.string a] _ _; refine (rRight_any a _ (by omega)).mono ?_; rw [HA.out]; rintro e w2 ⟨rfl, hk2⟩)
      | (go_at_call 11; with_reducible change Calls _ _ #[.string c] _ _; refine (rRight_any c _ (by omega)).mono ?_; rw [HB.out]; rintro e w3 ⟨rfl, hk3⟩))
    go_ret
    exact ⟨rfl, (hk1.andThen hk2).andThen hk3⟩
  | true =>
    have pa := (rightL_iff _).1 hRa
    have pb := (rightL_iff _).1 hRb
    have sa : a.size ≤ 96 := by have h1 := bytes_of_runes (strL a); have h2 := pa.most; rw [strL_length] at h1; omega
    have sb : b.size ≤ 96 := by have h1 := bytes_of_runes (strL b); have h2 := pb.most; rw [strL_length] at h1; omega
    obtain ⟨na, hna⟩ : ∃ n, (runesL (strL a)).length = n := ⟨_, rfl⟩
    obtain ⟨nb, hnb⟩ : ∃ n, (runesL (strL b)).length = n := ⟨_, rfl⟩
    obtain ⟨x, hx⟩ := str_mk (strL a ++ [32])
    obtain ⟨y, hy⟩ := str_mk (strL a ++ 32 :: strL b)
    obtain ⟨wa, hwa⟩ := str_mk (wordL (strL a))
    obtain ⟨wb, hwb⟩ := str_mk (wordL (strL b))
    obtain ⟨wx, hwx⟩ := str_mk (wordL (strL a) ++ [37, 50, 48])
    obtain ⟨wy, hwy⟩ := str_mk (wordL (strL a) ++ [37, 50, 48] ++ wordL (strL b))
    have sx : x.size ≤ 97 := by rw [← strL_length x, hx, List.length_append, strL_length]; simp; omega
    have sy : y.size ≤ 193 := by rw [← strL_length y, hy, List.length_append, List.length_cons, strL_length, strL_length]; omega
    have swa : wa.size ≤ 288 := by rw [← strL_length wa, hwa]; have := wordL_le (strL a); rw [strL_length] at this; omega
    have swb : wb.size ≤ 288 := by rw [← strL_length wb, hwb]; have := wordL_le (strL b); rw [strL_length] at this; omega
    have swx : wx.size ≤ 291 := by rw [← strL_length wx, hwx, List.length_append, ← hwa, strL_length]; simp; omega
    have a1 := add_rule (P := Try.prog) a ⟨#[32]⟩ x (by rw [hx]; rfl) (by omega) (by decide)
    have a2 := add_rule (P := Try.prog) x b y (by rw [hx, hy]; simp) (by omega) (by omega)
    have a3 := add_rule (P := Try.prog) wa ⟨#[37, 50, 48]⟩ wx (by rw [hwx, hwa]; rfl) (by omega) (by decide)
    have a4 := add_rule (P := Try.prog) wx wb wy (by rw [hwy, hwx, hwb]) (by omega) (by omega)
    have HA := Lib.hid hRa
    have HB := Lib.hid hRb
    have HNa := Lib.hid hna
    have HNb := Lib.hid hnb
    have HNy : Hid ((runesL (strL y)).length = na + 1 + nb) := Lib.hid (by rw [hy, runes_both pa, List.length_append, List.length_cons, hna, hnb]; omega)
    have HRy : Hid (rightL (strL y) = decide (na + 1 + nb ≤ 24)) := Lib.hid (by rw [hy, right_both pa pb, hna, hnb])
    have HWa : Hid ((.string ⟨(wordL (strL a)).toArray⟩ : Value) = .string wa) := Lib.hid (by rw [str_of _ _ hwa])
    have HWb : Hid ((.string ⟨(wordL (strL b)).toArray⟩ : Value) = .string wb) := Lib.hid (by rw [str_of _ _ hwb])
    have HWy : Hid ((.string ⟨(wordL (strL y)).toArray⟩ : Value) = .string wy) := Lib.hid (by
      rw [hy, wordL_append, show wordL (32 :: strL b) = [37, 50, 48] ++ wordL (strL b) from rfl, ← List.append_assoc, str_of _ _ hwy])
    have la : na ≤ 24 := by rw [← hna]; exact pa.most
    have lb : nb ≤ 24 := by rw [← hnb]; exact pb.most
    clear hRa hRb pa pb hna hnb hx hy hwa hwb hwx hwy sx swa swb swx
    obtain ⟨R, hR⟩ : ∃ R, decide (na + 1 + nb ≤ 24) = R := ⟨_, rfl⟩
    have hRi : decide ((na : Int) + 1 + (nb : Int) ≤ 24) = R := by rw [← hR]; exact decide_eq_decide.2 (by omega)
    rw [hR] at HRy
    clear hR
    go_enter Try.func6, Try.ntmps6
    go_wp2_with (first
      | (go_at_call 7; refine (wakes10_any _).mono ?_; rintro e w1 ⟨rfl, hk1⟩)
      | (go_at_call 11; with_reducible change Calls _ _ #[.string a] _ _; refine (rRight_any a _ (by omega)).mono ?_; rw [HA.out]; rintro e w2 ⟨rfl, hk2⟩)
      | (go_at_call 11; with_reducible change Calls _ _ #[.string b] _ _; refine (rRight_any b _ (by omega)).mono ?_; rw [HB.out]; rintro e w3 ⟨rfl, hk3⟩; have hkA := (hk1.andThen hk2).andThen hk3)
      | (go_at_call 12; with_reducible change Calls _ _ #[.string a] _ _; refine (nRunes_any a _ (by omega)).mono ?_; rw [HNa.out]; rintro e w4 ⟨rfl, hk4⟩; have hkA := hkA.andThen hk4)
      | (go_at_call 12; with_reducible change Calls _ _ #[.string b] _ _; refine (nRunes_any b _ (by omega)).mono ?_; rw [HNb.out]; rintro e w5 ⟨rfl, hk5⟩; have hkA := hkA.andThen hk5)
      | (go_at_call 12; with_reducible change Calls _ _ #[.string y] _ _; refine (nRunes_any y _ (by omega)).mono ?_; rw [HNy.out]; rintro e w6 ⟨rfl, hk6⟩; have hkA := hkA.andThen hk6)
      | (go_at_call 10; refine (nRight_any y _ (by omega)).mono ?_; rw [HRy.out]; rintro e w7 ⟨rfl, hk7⟩; have hkA := hkA.andThen hk7)
      | (go_at_call 14; with_reducible change Calls _ _ #[.string y] _ _; refine (nWord_any y _ (by omega)).mono ?_; rw [HWy.out]; rintro e w8 ⟨rfl, hk8⟩; have hkA := hkA.andThen hk8)
      | (go_at_call 14; with_reducible change Calls _ _ #[.string a] _ _; refine (nWord_any a _ (by omega)).mono ?_; rw [HWa.out]; rintro e w9 ⟨rfl, hk9⟩; have hkA := hkA.andThen hk9)
      | (go_at_call 14; with_reducible change Calls _ _ #[.string b] _ _; refine (nWord_any b _ (by omega)).mono ?_; rw [HWb.out]; rintro e w10 ⟨rfl, hk10⟩; have hkA := hkA.andThen hk10))
    go_ret
    exact ⟨by simp, hkA⟩
end Go.Proofs.Ytboienifeciidaa
