/-
  Plain mathematics of layer 10: names, words, and which text stands ahead, as functions of lists of bytes. Nothing of the program here.
-/
import Derived.Test.YtboienifeciidaaDoorRunM
import Derived.Lib.Bytealg
namespace Go.Proofs.YtboienifeciidaaDoor
set_option linter.unusedVariables false

/-- A sign that a name may have. -/
def signOk (c : Nat) : Bool := decide (32 ≤ c) && !(decide (127 ≤ c) && decide (c ≤ 159)) && decide (c ≠ 47) && decide (c ≠ 65533)
/-- Is it a name? -/
@[irreducible] def rightL (l : List UInt8) : Bool :=
  decide (1 ≤ (runesL l).length) && decide ((runesL l).length ≤ 24) && (runesL l).all signOk && decide ((runesL l).head? ≠ some 32) && decide ((runesL l).getLast? ≠ some 32)
structure RightP (l : List UInt8) : Prop where
  one : 1 ≤ (runesL l).length
  most : (runesL l).length ≤ 24
  all : ∀ c ∈ runesL l, signOk c = true
  head : (runesL l).head? ≠ some 32
  last : (runesL l).getLast? ≠ some 32
theorem rightL_iff (l : List UInt8) : rightL l = true ↔ RightP l := by
  unfold rightL
  simp only [Bool.and_eq_true, decide_eq_true_eq, List.all_eq_true, and_assoc]
  exact ⟨fun ⟨a, b, c, d, e⟩ => ⟨a, b, c, d, e⟩, fun h => ⟨h.one, h.most, h.all, h.head, h.last⟩⟩
theorem signOk_ne {c : Nat} (h : signOk c = true) : c ≠ 65533 := by
  unfold signOk at h
  simp only [Bool.and_eq_true, decide_eq_true_eq] at h
  exact h.2
theorem RightP.whole {l : List UInt8} (h : RightP l) : ∀ c ∈ runesL l, c ≠ 65533 := fun c hc => signOk_ne (h.all c hc)
theorem right_bad {l : List UInt8} {c : Nat} (hc : c ∈ runesL l) (h : signOk c = false) : rightL l = false := by
  cases hr : rightL l with
  | false => rfl
  | true => have := ((rightL_iff l).1 hr).all c hc; rw [h] at this; exact absurd this (by simp)
theorem right_long {l : List UInt8} (h : 24 < (runesL l).length) : rightL l = false := by
  cases hr : rightL l with
  | false => rfl
  | true => have := ((rightL_iff l).1 hr).most; omega
theorem right_nil : rightL [] = false := by
  cases hr : rightL [] with
  | false => rfl
  | true => have := ((rightL_iff []).1 hr).one; rw [runesL_nil] at this; simp at this
/-- Where all its runes may be and aren't too many, its first and last byte tell. -/
theorem right_ends {b : UInt8} {t : List UInt8} {z : UInt8} (hz : (b :: t).getLast? = some z) (hall : ∀ c ∈ runesL (b :: t), signOk c = true) (hm : (runesL (b :: t)).length ≤ 24) : rightL (b :: t) = (decide (b ≠ 32) && decide (z ≠ 32)) := by
  have h1 : 1 ≤ (runesL (b :: t)).length := by rw [runesL_next _ (by simp)]; simp
  have hh := runes_head b t
  have hl := runes_last (b :: t)
  rw [hz, Option.some.injEq] at hl
  unfold rightL
  rw [show decide (1 ≤ (runesL (b :: t)).length) = true from decide_eq_true h1, show decide ((runesL (b :: t)).length ≤ 24) = true from decide_eq_true hm,
    show (runesL (b :: t)).all signOk = true from List.all_eq_true.2 hall]
  simp only [Bool.true_and, ne_eq, hh, hl]

theorem signOk_low (c : Nat) (h : signOk c = true) : signOk (lowN c) = true := by
  unfold lowN
  split
  · unfold signOk at h ⊢
    simp only [Bool.and_eq_true, decide_eq_true_eq, Bool.not_eq_true', Bool.and_eq_false_iff, decide_eq_false_iff_not] at h ⊢
    omega
  · exact h
theorem lowN_32 (c : Nat) : lowN c = 32 ↔ c = 32 := by unfold lowN; split <;> omega
/-- A plain form is a name of as many runes. -/
theorem right_low {l : List UInt8} (h : rightL l = true) : rightL (l.map lowB) = true := by
  rw [rightL_iff] at h ⊢
  refine ⟨?_, ?_, ?_, ?_, ?_⟩
  · rw [runesL_low, List.length_map]; exact h.one
  · rw [runesL_low, List.length_map]; exact h.most
  · intro c hc
    rw [runesL_low, List.mem_map] at hc
    obtain ⟨d, hd, rfl⟩ := hc
    exact signOk_low d (h.all d hd)
  · rw [runesL_low, List.head?_map]
    intro e
    cases hx : (runesL l).head? with
    | none => rw [hx] at e; simp at e
    | some x => rw [hx, Option.map_some, Option.some.injEq, lowN_32] at e; subst e; exact h.head hx
  · rw [runesL_low, List.getLast?_map]
    intro e
    cases hx : (runesL l).getLast? with
    | none => rw [hx] at e; simp at e
    | some x => rw [hx, Option.map_some, Option.some.injEq, lowN_32] at e; subst e; exact h.last hx
theorem low_low (l : List UInt8) : (l.map lowB).map lowB = l.map lowB := by
  rw [List.map_map]
  exact List.map_congr_left fun b _ => lowB_twice b
theorem getLast_appN (p t : List Nat) (he : t ≠ []) : (p ++ t).getLast? = t.getLast? := by
  rw [List.getLast?_append]
  cases h : t.getLast? with
  | none => exact absurd (List.getLast?_eq_none_iff.1 h) he
  | some x => rfl
/-- Two names with a blank between. -/
theorem runes_both {a b : List UInt8} (h : RightP a) : runesL (a ++ 32 :: b) = runesL a ++ 32 :: runesL b := by
  rw [runesL_append a _ h.whole, runesL_ascii 32 b (by decide)]; rfl
theorem right_both {a b : List UInt8} (ha : RightP a) (hb : RightP b) : rightL (a ++ 32 :: b) = decide ((runesL a).length + 1 + (runesL b).length ≤ 24) := by
  have hr := runes_both (b := b) ha
  have hn : (runesL (a ++ 32 :: b)).length = (runesL a).length + 1 + (runesL b).length := by rw [hr]; simp; omega
  by_cases hm : (runesL a).length + 1 + (runesL b).length ≤ 24
  · rw [decide_eq_true hm, rightL_iff]
    refine ⟨by omega, by omega, ?_, ?_, ?_⟩
    · intro c hc
      rw [hr, List.mem_append, List.mem_cons] at hc
      rcases hc with h | h | h
      · exact ha.all c h
      · subst h; rfl
      · exact hb.all c h
    · rw [hr]
      have := ha.head
      cases hx : runesL a with
      | nil => have := ha.one; rw [hx] at this; simp at this
      | cons x t => rw [hx] at this; simpa using this
    · rw [hr]
      have := hb.last
      cases hx : runesL b with
      | nil => have := hb.one; rw [hx] at this; simp at this
      | cons x t => rw [hx] at this; rw [getLast_appN (runesL a) _ (by simp), List.getLast?_cons_of_ne_nil (by simp)]; exact this
  · rw [decide_eq_false hm]
    exact right_long (by omega)

/-- Does a byte stand for itself? -/
def selfB (b : UInt8) : Bool := (decide (97 ≤ b.toNat) && decide (b.toNat ≤ 122)) || (decide (48 ≤ b.toNat) && decide (b.toNat ≤ 57))
def digB (n : Nat) : UInt8 := if n < 10 then UInt8.ofNat (48 + n) else UInt8.ofNat (87 + n)
def valZ (b : UInt8) : Int := if 48 ≤ b.toNat ∧ b.toNat ≤ 57 then (b.toNat : Int) - 48 else if 97 ≤ b.toNat ∧ b.toNat ≤ 102 then (b.toNat : Int) - 87 else -1
def wordB (b : UInt8) : List UInt8 := if selfB b then [b] else [37, digB (b.toNat / 16), digB (b.toNat % 16)]
def wordL (l : List UInt8) : List UInt8 := l.flatMap wordB
/-- The byte with which a word begins, and how much of it tells it. -/
@[irreducible] def firL : List UInt8 → Option (UInt8 × Nat)
  | [] => none
  | b :: t => if selfB b then some (b, 1) else
    match t with
    | h :: w :: _ => if b = 37 ∧ 0 ≤ valZ h ∧ 0 ≤ valZ w ∧ selfB (UInt8.ofNat (16 * valZ h + valZ w).toNat) = false then some (UInt8.ofNat (16 * valZ h + valZ w).toNat, 3) else none
    | _ => none
theorem firL_self {b : UInt8} {t : List UInt8} (h : selfB b = true) : firL (b :: t) = some (b, 1) := by unfold firL; dsimp only; rw [if_pos h]
theorem firL_three {b h w : UInt8} {t : List UInt8} (hs : selfB b = false) : firL (b :: h :: w :: t) = if b = 37 ∧ 0 ≤ valZ h ∧ 0 ≤ valZ w ∧ selfB (UInt8.ofNat (16 * valZ h + valZ w).toNat) = false then some (UInt8.ofNat (16 * valZ h + valZ w).toNat, 3) else none := by
  unfold firL; dsimp only; rw [if_neg (by rw [hs]; simp)]
theorem firL_short {b : UInt8} {t : List UInt8} (hs : selfB b = false) (h : t.length < 2) : firL (b :: t) = none := by
  unfold firL; dsimp only; rw [if_neg (by rw [hs]; simp)]
  match t, h with
  | [], _ => rfl
  | [x], _ => rfl
theorem firL_pos {l : List UInt8} {x : UInt8} {k : Nat} (h : firL l = some (x, k)) : 1 ≤ k ∧ k ≤ l.length ∧ k ≤ 3 := by
  unfold firL at h
  split at h
  · cases h
  · split at h
    · cases h; simp
    · split at h
      · split at h
        · cases h; simp
        · cases h
      · cases h
/-- The text of a word. -/
def textF : Nat → List UInt8 → Option (List UInt8)
  | 0, _ => some []
  | n + 1, l => if l = [] then some [] else (firL l).bind fun p => (textF n (l.drop p.2)).map (p.1 :: ·)
def textL (l : List UInt8) : Option (List UInt8) := textF l.length l
theorem textF_more (n m : Nat) (l : List UInt8) (h1 : l.length ≤ n) (h2 : l.length ≤ m) : textF n l = textF m l := by
  induction n generalizing m l with
  | zero =>
    have : l = [] := List.length_eq_zero_iff.1 (by omega)
    subst this
    cases m <;> simp [textF]
  | succ n ih =>
    by_cases he : l = []
    · subst he; cases m <;> simp [textF]
    · have h0 : 0 < l.length := List.length_pos_iff.2 he
      obtain ⟨m, rfl⟩ : ∃ k, m = k + 1 := ⟨m - 1, by omega⟩
      simp only [textF, if_neg he]
      cases hf : firL l with
      | none => rfl
      | some p =>
        have := firL_pos (x := p.1) (k := p.2) hf
        simp only [Option.bind_some]
        rw [ih m (l.drop p.2) (by rw [List.length_drop]; omega) (by rw [List.length_drop]; omega)]
theorem textL_nil : textL [] = some [] := rfl
theorem textL_next {l : List UInt8} (he : l ≠ []) : textL l = (firL l).bind fun p => (textL (l.drop p.2)).map (p.1 :: ·) := by
  have h0 : 0 < l.length := List.length_pos_iff.2 he
  obtain ⟨n, hn⟩ : ∃ n, l.length = n + 1 := ⟨l.length - 1, by omega⟩
  conv => lhs; unfold textL
  rw [hn]
  simp only [textF, if_neg he]
  cases hf : firL l with
  | none => rfl
  | some p =>
    have := firL_pos (x := p.1) (k := p.2) hf
    simp only [Option.bind_some]
    rw [textF_more n _ (l.drop p.2) (by rw [List.length_drop]; omega) (Nat.le_refl _)]
    rfl
theorem textL_bad {l : List UInt8} (he : l ≠ []) (hf : firL l = none) : textL l = none := by rw [textL_next he, hf]; rfl
theorem textL_good {l : List UInt8} {x : UInt8} {k : Nat} (hf : firL l = some (x, k)) : textL l = (textL (l.drop k)).map (x :: ·) := by
  have he : l ≠ [] := by rintro rfl; have := firL_pos hf; simp at this; omega
  rw [textL_next he, hf]; rfl

theorem digits_back : ∀ n < 16, valZ (digB n) = n ∧ selfB 37 = false := by decide +kernel
theorem value_back : ∀ n < 256, 0 ≤ valZ (UInt8.ofNat n) → digB (valZ (UInt8.ofNat n)).toNat = UInt8.ofNat n ∧ valZ (UInt8.ofNat n) < 16 := by decide +kernel
theorem valZ_back {b : UInt8} (h : 0 ≤ valZ b) : digB (valZ b).toNat = b ∧ valZ b < 16 := by
  have := value_back b.toNat (UInt8.toNat_lt b)
  rw [UInt8.ofNat_toNat] at this
  exact this h
theorem valZ_ge (b : UInt8) : -1 ≤ valZ b := by unfold valZ; split <;> (try split) <;> omega
theorem firL_word (b : UInt8) (t : List UInt8) : firL (wordB b ++ t) = some (b, (wordB b).length) := by
  unfold wordB
  by_cases hs : selfB b = true
  · rw [if_pos hs]; exact firL_self hs
  · rw [if_neg hs]
    have hb := UInt8.toNat_lt b
    have h1 := (digits_back (b.toNat / 16) (by omega)).1
    have h2 := (digits_back (b.toNat % 16) (by omega)).1
    have hz : UInt8.ofNat (16 * valZ (digB (b.toNat / 16)) + valZ (digB (b.toNat % 16))).toNat = b := by
      rw [h1, h2]
      rw [show (16 * ((b.toNat / 16 : Nat) : Int) + ((b.toNat % 16 : Nat) : Int)).toNat = b.toNat by omega, UInt8.ofNat_toNat]
    rw [List.cons_append, List.cons_append, List.cons_append, List.nil_append, firL_three (digits_back 0 (by omega)).2, hz, if_pos ⟨rfl, by omega, by omega, by simpa using hs⟩]
    rfl
theorem text_word (s : List UInt8) : textL (wordL s) = some s := by
  induction s with
  | nil => rfl
  | cons b t ih =>
    have he : wordL (b :: t) = wordB b ++ wordL t := by simp [wordL]
    rw [he, textL_good (firL_word b (wordL t)), List.drop_left, ih]; rfl
theorem wordB_fir {l : List UInt8} {x : UInt8} {k : Nat} (h : firL l = some (x, k)) : l = wordB x ++ l.drop k := by
  unfold firL at h
  split at h
  · cases h
  · rename_i b t
    split at h
    · rename_i hs
      cases h
      unfold wordB; rw [if_pos hs]; rfl
    · split at h
      · rename_i hs c w t
        split at h
        · rename_i g
          cases h
          obtain ⟨rfl, g1, g2, g3⟩ := g
          have d1 := valZ_back g1
          have d2 := valZ_back g2
          have e : (UInt8.ofNat (16 * valZ c + valZ w).toNat).toNat = (16 * valZ c + valZ w).toNat := by rw [UInt8.toNat_ofNat']; exact Nat.mod_eq_of_lt (by omega)
          unfold wordB
          rw [if_neg (by rw [g3]; simp), e, show (16 * valZ c + valZ w).toNat / 16 = (valZ c).toNat by omega, show (16 * valZ c + valZ w).toNat % 16 = (valZ w).toNat by omega, d1.1, d2.1]
          rfl
        · cases h
      · cases h
theorem word_text {l x : List UInt8} (h : textL l = some x) : wordL x = l := by
  induction hn : l.length using Nat.strongRecOn generalizing l x with
  | _ n ih =>
    by_cases he : l = []
    · subst he; cases h; rfl
    · cases hf : firL l with
      | none => rw [textL_bad he hf] at h; cases h
      | some p =>
        obtain ⟨b, k⟩ := p
        have hp := firL_pos hf
        rw [textL_good hf] at h
        obtain ⟨y, hy, rfl⟩ := Option.map_eq_some_iff.1 h
        have := ih (l.drop k).length (by rw [List.length_drop]; omega) hy rfl
        have hw := wordB_fir hf
        rw [show wordL (b :: y) = wordB b ++ wordL y by simp [wordL], this, ← hw]

/-- Digits' values as strings.IndexByte has them. -/
def digitsL : List UInt8 := [48, 49, 50, 51, 52, 53, 54, 55, 56, 57, 97, 98, 99, 100, 101, 102]
theorem index_value' : ∀ n < 256, Lib.indexByte digitsL (UInt8.ofNat n) = valZ (UInt8.ofNat n) := by decide +kernel
theorem index_value (b : UInt8) : Lib.indexByte digitsL b = valZ b := by
  have := index_value' b.toNat (UInt8.toNat_lt b)
  rwa [UInt8.ofNat_toNat] at this

/-- Which of two lists stands ahead. -/
def lexL : List Nat → List Nat → Bool
  | _, [] => false
  | [], _ :: _ => true
  | x :: xs, y :: ys => if x = y then lexL xs ys else decide (x < y)
theorem lexL_self (x : List Nat) : lexL x x = false := by induction x with | nil => rfl | cons a t ih => simp [lexL, ih]
theorem lexL_both (x y : List Nat) : (lexL x y && lexL y x) = false := by
  induction x generalizing y with
  | nil => cases y <;> simp [lexL]
  | cons a t ih =>
    cases y with
    | nil => simp [lexL]
    | cons b u =>
      by_cases h : a = b
      · subst h; simp [lexL, ih]
      · have h' : ¬ b = a := fun e => h e.symm
        simp only [lexL, if_neg h, if_neg h', Bool.and_eq_false_iff, decide_eq_false_iff_not]
        omega
theorem lexL_trans (x y z : List Nat) (h1 : lexL x y = true) (h2 : lexL y z = true) : lexL x z = true := by
  induction x generalizing y z with
  | nil =>
    cases y with
    | nil => simp [lexL] at h1
    | cons b u => cases z with
      | nil => simp [lexL] at h2
      | cons c v => rfl
  | cons a t ih =>
    cases y with
    | nil => simp [lexL] at h1
    | cons b u => cases z with
      | nil => simp [lexL] at h2
      | cons c v =>
        simp only [lexL] at h1 h2 ⊢
        by_cases e1 : a = b
        · subst e1
          rw [if_pos rfl] at h1
          by_cases e2 : a = c
          · subst e2; rw [if_pos rfl] at h2 ⊢; exact ih u v h1 h2
          · rw [if_neg e2] at h2 ⊢; exact h2
        · rw [if_neg e1, decide_eq_true_eq] at h1
          by_cases e2 : b = c
          · subst e2; rw [if_neg e1, decide_eq_true_eq]; exact h1
          · rw [if_neg e2, decide_eq_true_eq] at h2
            rw [if_neg (by omega), decide_eq_true_eq]; omega
end Go.Proofs.YtboienifeciidaaDoor
