/-
  Plain mathematics of layer 10: a text's runes, names, plain forms, as functions of lists of bytes. Nothing of the program here.
-/
import Derived.Laws.RangeAny
import Derived.Lib.RuneBytes
namespace Go.Proofs.YtboienifeciidaaDoor
set_option linter.unusedVariables false

def at8 (l : List UInt8) (k : Nat) : Nat := (l.getD k 0).toNat
def cont8 (l : List UInt8) (k : Nat) : Prop := k < l.length ∧ at8 l k / 64 = 2
instance (l : List UInt8) (k : Nat) : Decidable (cont8 l k) := by unfold cont8; infer_instance
def v2 (l : List UInt8) : Nat := (at8 l 0 % 32) * 64 + at8 l 1 % 64
def v3 (l : List UInt8) : Nat := (at8 l 0 % 16) * 4096 + (at8 l 1 % 64) * 64 + at8 l 2 % 64
def v4 (l : List UInt8) : Nat := (at8 l 0 % 8) * 262144 + (at8 l 1 % 64) * 4096 + (at8 l 2 % 64) * 64 + at8 l 3 % 64
/-- The rune with which a text begins, and its width. -/
@[irreducible] def decL (l : List UInt8) : Nat × Nat :=
  if at8 l 0 < 128 then (at8 l 0, 1)
  else if at8 l 0 / 32 = 6 ∧ cont8 l 1 then
    if 128 ≤ v2 l then (v2 l, 2) else (65533, 1)
  else if at8 l 0 / 16 = 14 ∧ cont8 l 1 ∧ cont8 l 2 then
    if 2048 ≤ v3 l ∧ (v3 l < 55296 ∨ 57344 ≤ v3 l) then (v3 l, 3) else (65533, 1)
  else if at8 l 0 / 8 = 30 ∧ cont8 l 1 ∧ cont8 l 2 ∧ cont8 l 3 then
    if 65536 ≤ v4 l ∧ v4 l ≤ 1114111 then (v4 l, 4) else (65533, 1)
  else (65533, 1)

theorem at8_lt (l : List UInt8) (k : Nat) : at8 l k < 256 := by unfold at8; exact UInt8.toNat_lt _
theorem at8_drop (s : ByteArray) (i k : Nat) : (s.get! (i + k)).toNat = at8 (s.data.toList.drop i) k := by
  unfold at8
  congr 1
  simp only [ByteArray.get!, List.getD_eq_getElem?_getD, List.getElem?_drop, Array.getElem?_toList]
  rw [getElem!_def]
  cases s.data[i + k]? <;> rfl
theorem lt_drop (s : ByteArray) (i k : Nat) : (i + k < s.size) = (k < (s.data.toList.drop i).length) := by
  have : s.data.size = s.size := rfl
  simp only [List.length_drop, Array.length_toList, this]
  apply propext; omega
theorem decode_decL (s : ByteArray) (i : Nat) : Utf8.decode s i = decL (s.data.toList.drop i) := by
  unfold decL Utf8.decode
  simp only [at8_drop, lt_drop, Utf8.runeError]
  generalize s.data.toList.drop i = l
  have h0 := at8_lt l 0; have h1 := at8_lt l 1; have h2 := at8_lt l 2; have h3 := at8_lt l 3
  by_cases g0 : at8 l 0 < 128
  · rw [if_pos g0, if_pos g0]
  rw [if_neg g0, if_neg g0]
  simp only [Utf8.valid, Bool.and_eq_true, Bool.or_eq_true, decide_eq_true_eq, beq_iff_eq, ge_iff_le, and_assoc]
  by_cases g1 : at8 l 0 / 32 = 6 ∧ cont8 l 1
  · rw [if_pos (show at8 l 0 / 32 = 6 ∧ 1 < l.length ∧ at8 l 1 / 64 = 2 from g1), if_pos g1]
    exact ite_congr (propext Iff.rfl) (fun _ => rfl) (fun _ => rfl)
  rw [if_neg (show ¬ (at8 l 0 / 32 = 6 ∧ 1 < l.length ∧ at8 l 1 / 64 = 2) from g1), if_neg g1]
  by_cases g2 : at8 l 0 / 16 = 14 ∧ cont8 l 1 ∧ cont8 l 2
  · rw [if_pos (show at8 l 0 / 16 = 14 ∧ 1 < l.length ∧ at8 l 1 / 64 = 2 ∧ 2 < l.length ∧ at8 l 2 / 64 = 2 from ⟨g2.1, g2.2.1.1, g2.2.1.2, g2.2.2.1, g2.2.2.2⟩), if_pos g2]
    refine ite_congr (propext ?_) (fun _ => rfl) (fun _ => rfl)
    unfold v3; omega
  rw [if_neg (show ¬ (at8 l 0 / 16 = 14 ∧ 1 < l.length ∧ at8 l 1 / 64 = 2 ∧ 2 < l.length ∧ at8 l 2 / 64 = 2) from fun g => g2 ⟨g.1, ⟨g.2.1, g.2.2.1⟩, g.2.2.2⟩), if_neg g2]
  by_cases g3 : at8 l 0 / 8 = 30 ∧ cont8 l 1 ∧ cont8 l 2 ∧ cont8 l 3
  · rw [if_pos (show at8 l 0 / 8 = 30 ∧ 1 < l.length ∧ at8 l 1 / 64 = 2 ∧ 2 < l.length ∧ at8 l 2 / 64 = 2 ∧ 3 < l.length ∧ at8 l 3 / 64 = 2 from ⟨g3.1, g3.2.1.1, g3.2.1.2, g3.2.2.1.1, g3.2.2.1.2, g3.2.2.2⟩), if_pos g3]
    refine ite_congr (propext ?_) (fun _ => rfl) (fun _ => rfl)
    unfold v4; omega
  rw [if_neg (show ¬ (at8 l 0 / 8 = 30 ∧ 1 < l.length ∧ at8 l 1 / 64 = 2 ∧ 2 < l.length ∧ at8 l 2 / 64 = 2 ∧ 3 < l.length ∧ at8 l 3 / 64 = 2) from fun g => g3 ⟨g.1, ⟨g.2.1, g.2.2.1⟩, ⟨g.2.2.2.1, g.2.2.2.2.1⟩, g.2.2.2.2.2⟩), if_neg g3]

theorem u8n_of (n : Int) (b : UInt8) (h : n = b.toNat) : n.toNat.toUInt8 = b := by subst h; simp
theorem at8_cons0 (b : UInt8) (l : List UInt8) : at8 (b :: l) 0 = b.toNat := rfl
theorem at8_cons1 (b c : UInt8) (l : List UInt8) : at8 (b :: c :: l) 1 = c.toNat := rfl
theorem at8_cons2 (b c d : UInt8) (l : List UInt8) : at8 (b :: c :: d :: l) 2 = d.toNat := rfl
theorem at8_cons3 (b c d e : UInt8) (l : List UInt8) : at8 (b :: c :: d :: e :: l) 3 = e.toNat := rfl
theorem v2_cons (b c : UInt8) (l : List UInt8) : v2 (b :: c :: l) = (b.toNat % 32) * 64 + c.toNat % 64 := rfl
theorem v3_cons (b c d : UInt8) (l : List UInt8) : v3 (b :: c :: d :: l) = (b.toNat % 16) * 4096 + (c.toNat % 64) * 64 + d.toNat % 64 := rfl
theorem v4_cons (b c d e : UInt8) (l : List UInt8) : v4 (b :: c :: d :: e :: l) = (b.toNat % 8) * 262144 + (c.toNat % 64) * 4096 + (d.toNat % 64) * 64 + e.toNat % 64 := rfl
theorem cont8_cons1 (b c : UInt8) (l : List UInt8) : cont8 (b :: c :: l) 1 ↔ c.toNat / 64 = 2 := by simp [cont8, at8_cons1]
theorem cont8_cons2 (b c d : UInt8) (l : List UInt8) : cont8 (b :: c :: d :: l) 2 ↔ d.toNat / 64 = 2 := by simp [cont8, at8_cons2]
theorem cont8_cons3 (b c d e : UInt8) (l : List UInt8) : cont8 (b :: c :: d :: e :: l) 3 ↔ e.toNat / 64 = 2 := by simp [cont8, at8_cons3]
theorem two_of {l : List UInt8} (h : cont8 l 1) : ∃ b c t, l = b :: c :: t := by
  have := h.1
  match l, this with
  | b :: c :: t, _ => exact ⟨b, c, t, rfl⟩
theorem three_of {l : List UInt8} (h : cont8 l 2) : ∃ b c d t, l = b :: c :: d :: t := by
  have := h.1
  match l, this with
  | b :: c :: d :: t, _ => exact ⟨b, c, d, t, rfl⟩
theorem four_of {l : List UInt8} (h : cont8 l 3) : ∃ b c d e t, l = b :: c :: d :: e :: t := by
  have := h.1
  match l, this with
  | b :: c :: d :: e :: t, _ => exact ⟨b, c, d, e, t, rfl⟩

theorem decL_ascii (b : UInt8) (t : List UInt8) (h : b.toNat < 128) : decL (b :: t) = (b.toNat, 1) := by
  unfold decL; rw [at8_cons0, if_pos h]
theorem decL_two (b c : UInt8) (t : List UInt8) (h0 : b.toNat / 32 = 6) (h1 : c.toNat / 64 = 2) (hv : 128 ≤ (b.toNat % 32) * 64 + c.toNat % 64) : decL (b :: c :: t) = ((b.toNat % 32) * 64 + c.toNat % 64, 2) := by
  unfold decL
  rw [at8_cons0, if_neg (by omega), if_pos ⟨h0, (cont8_cons1 ..).2 h1⟩]
  rw [v2_cons]
  rw [if_pos hv]
theorem decL_three (b c d : UInt8) (t : List UInt8) (h0 : b.toNat / 16 = 14) (h1 : c.toNat / 64 = 2) (h2 : d.toNat / 64 = 2) (v : Nat) (hv : v = (b.toNat % 16) * 4096 + (c.toNat % 64) * 64 + d.toNat % 64)
    (hok : 2048 ≤ v ∧ (v < 55296 ∨ 57344 ≤ v)) : decL (b :: c :: d :: t) = (v, 3) := by
  subst hv
  unfold decL
  rw [at8_cons0, if_neg (by omega), if_neg (by omega), if_pos ⟨h0, (cont8_cons1 ..).2 h1, (cont8_cons2 ..).2 h2⟩]
  rw [v3_cons]
  rw [if_pos hok]
theorem decL_four (b c d e : UInt8) (t : List UInt8) (h0 : b.toNat / 8 = 30) (h1 : c.toNat / 64 = 2) (h2 : d.toNat / 64 = 2) (h3 : e.toNat / 64 = 2) (v : Nat)
    (hv : v = (b.toNat % 8) * 262144 + (c.toNat % 64) * 4096 + (d.toNat % 64) * 64 + e.toNat % 64) (hok : 65536 ≤ v ∧ v ≤ 1114111) : decL (b :: c :: d :: e :: t) = (v, 4) := by
  subst hv
  unfold decL
  rw [at8_cons0, if_neg (by omega), if_neg (by omega), if_neg (by omega), if_pos ⟨h0, (cont8_cons1 ..).2 h1, (cont8_cons2 ..).2 h2, (cont8_cons3 ..).2 h3⟩]
  rw [v4_cons]
  rw [if_pos hok]

/-- A rune of more than one byte, written out. -/
def Enc (c : Nat) (p : List UInt8) : Prop :=
  2 ≤ p.length ∧ p.length ≤ 4 ∧ 128 ≤ c ∧ c ≤ 1114111 ∧ p = Lib.encodeRune c ∧ (∀ b ∈ p, 128 ≤ b.toNat) ∧ ∀ t, decL (p ++ t) = (c, p.length)
/-- How a text that isn't empty begins. -/
inductive Shape : List UInt8 → Prop
  | ascii (b : UInt8) (t : List UInt8) (hb : b.toNat < 128) (hd : decL (b :: t) = (b.toNat, 1)) : Shape (b :: t)
  | bad (b : UInt8) (t : List UInt8) (hb : 128 ≤ b.toNat) (hd : decL (b :: t) = (65533, 1)) : Shape (b :: t)
  | enc (c : Nat) (p t : List UInt8) (h : Enc c p) : Shape (p ++ t)

theorem enc_two (b c : UInt8) (h0 : b.toNat / 32 = 6) (h1 : c.toNat / 64 = 2) (hv : 128 ≤ (b.toNat % 32) * 64 + c.toNat % 64) : Enc ((b.toNat % 32) * 64 + c.toNat % 64) [b, c] := by
  have e1 := UInt8.toNat_lt b; have e2 := UInt8.toNat_lt c
  refine ⟨by simp, by simp, hv, by omega, ?_, ?_, fun t => decL_two b c t h0 h1 hv⟩
  · unfold Lib.encodeRune
    rw [Lib.encodeRuneZ_two (by omega) (by omega)]
    simp only [List.map_cons, List.map_nil]
    rw [u8n_of _ b (by omega), u8n_of _ c (by omega)]
  · intro x hx
    simp only [List.mem_cons, List.not_mem_nil, or_false] at hx
    rcases hx with rfl | rfl <;> omega
theorem enc_three (b c d : UInt8) (h0 : b.toNat / 16 = 14) (h1 : c.toNat / 64 = 2) (h2 : d.toNat / 64 = 2) (v : Nat) (hv : v = (b.toNat % 16) * 4096 + (c.toNat % 64) * 64 + d.toNat % 64)
    (hok : 2048 ≤ v ∧ (v < 55296 ∨ 57344 ≤ v)) : Enc v [b, c, d] := by
  have e1 := UInt8.toNat_lt b; have e2 := UInt8.toNat_lt c; have e3 := UInt8.toNat_lt d
  refine ⟨by simp, by simp, by omega, by omega, ?_, ?_, fun t => decL_three b c d t h0 h1 h2 v hv hok⟩
  · unfold Lib.encodeRune
    rw [Lib.encodeRuneZ_three (by omega)]
    simp only [List.map_cons, List.map_nil]
    rw [u8n_of _ b (by omega), u8n_of _ c (by omega), u8n_of _ d (by omega)]
  · intro x hx
    simp only [List.mem_cons, List.not_mem_nil, or_false] at hx
    rcases hx with rfl | rfl | rfl <;> omega
theorem enc_four (b c d e : UInt8) (h0 : b.toNat / 8 = 30) (h1 : c.toNat / 64 = 2) (h2 : d.toNat / 64 = 2) (h3 : e.toNat / 64 = 2) (v : Nat)
    (hv : v = (b.toNat % 8) * 262144 + (c.toNat % 64) * 4096 + (d.toNat % 64) * 64 + e.toNat % 64) (hok : 65536 ≤ v ∧ v ≤ 1114111) : Enc v [b, c, d, e] := by
  have e1 := UInt8.toNat_lt b; have e2 := UInt8.toNat_lt c; have e3 := UInt8.toNat_lt d; have e4 := UInt8.toNat_lt e
  refine ⟨by simp, by simp, by omega, by omega, ?_, ?_, fun t => decL_four b c d e t h0 h1 h2 h3 v hv hok⟩
  · unfold Lib.encodeRune
    rw [Lib.encodeRuneZ_four (by omega) (by omega)]
    simp only [List.map_cons, List.map_nil]
    rw [u8n_of _ b (by omega), u8n_of _ c (by omega), u8n_of _ d (by omega), u8n_of _ e (by omega)]
  · intro x hx
    simp only [List.mem_cons, List.not_mem_nil, or_false] at hx
    rcases hx with rfl | rfl | rfl | rfl <;> omega
theorem shape_of (l : List UInt8) (h : l ≠ []) : Shape l := by
  obtain ⟨b, t, rfl⟩ : ∃ b t, l = b :: t := by cases l with | nil => exact absurd rfl h | cons b t => exact ⟨b, t, rfl⟩
  by_cases g0 : b.toNat < 128
  · exact .ascii b t g0 (decL_ascii b t g0)
  by_cases g1 : b.toNat / 32 = 6 ∧ cont8 (b :: t) 1
  · obtain ⟨b', c, t', he⟩ := two_of g1.2
    cases he
    have h1 := (cont8_cons1 ..).1 g1.2
    by_cases hv : 128 ≤ (b.toNat % 32) * 64 + c.toNat % 64
    · exact .enc _ [b, c] t' (enc_two b c g1.1 h1 hv)
    · refine .bad b _ (by omega) ?_
      unfold decL
      rw [at8_cons0, if_neg g0, if_pos g1]
      rw [v2_cons]
      rw [if_neg hv]
  by_cases g2 : b.toNat / 16 = 14 ∧ cont8 (b :: t) 1 ∧ cont8 (b :: t) 2
  · obtain ⟨b', c, d, t', he⟩ := three_of g2.2.2
    cases he
    have h1 := (cont8_cons1 ..).1 g2.2.1
    have h2 := (cont8_cons2 ..).1 g2.2.2
    obtain ⟨v, hvd⟩ : ∃ v, v = (b.toNat % 16) * 4096 + (c.toNat % 64) * 64 + d.toNat % 64 := ⟨_, rfl⟩
    by_cases hv : 2048 ≤ v ∧ (v < 55296 ∨ 57344 ≤ v)
    · exact .enc v [b, c, d] t' (enc_three b c d g2.1 h1 h2 v hvd hv)
    · refine .bad b _ (by omega) ?_
      unfold decL
      rw [at8_cons0, if_neg g0, if_neg g1, if_pos g2]
      rw [v3_cons]
      rw [← hvd, if_neg hv]
  by_cases g3 : b.toNat / 8 = 30 ∧ cont8 (b :: t) 1 ∧ cont8 (b :: t) 2 ∧ cont8 (b :: t) 3
  · obtain ⟨b', c, d, e, t', he⟩ := four_of g3.2.2.2
    cases he
    have h1 := (cont8_cons1 ..).1 g3.2.1
    have h2 := (cont8_cons2 ..).1 g3.2.2.1
    have h3 := (cont8_cons3 ..).1 g3.2.2.2
    obtain ⟨v, hvd⟩ : ∃ v, v = (b.toNat % 8) * 262144 + (c.toNat % 64) * 4096 + (d.toNat % 64) * 64 + e.toNat % 64 := ⟨_, rfl⟩
    by_cases hv : 65536 ≤ v ∧ v ≤ 1114111
    · exact .enc v [b, c, d, e] t' (enc_four b c d e g3.1 h1 h2 h3 v hvd hv)
    · refine .bad b _ (by omega) ?_
      unfold decL
      rw [at8_cons0, if_neg g0, if_neg g1, if_neg g2, if_pos g3]
      rw [v4_cons]
      rw [← hvd, if_neg hv]
  refine .bad b t (by omega) ?_
  unfold decL
  rw [at8_cons0, if_neg g0, if_neg g1, if_neg g2, if_neg g3]

theorem decL_width (l : List UInt8) (h : l ≠ []) : 1 ≤ (decL l).2 ∧ (decL l).2 ≤ 4 ∧ (decL l).2 ≤ l.length ∧ (decL l).1 ≤ 1114111 := by
  cases shape_of l h with
  | ascii b t hb hd => rw [hd]; simp; omega
  | bad b t hb hd => rw [hd]; simp
  | enc c p t he => rw [he.2.2.2.2.2.2 t, List.length_append]; have := he.1; have := he.2.1; have := he.2.2.2.1; simp; omega

/-- A text's runes. -/
def runesL (l : List UInt8) : List Nat := if h : l = [] then [] else (decL l).1 :: runesL (l.drop (decL l).2)
termination_by l.length
decreasing_by
  have := (decL_width l h).1
  have : 0 < l.length := by cases l with | nil => exact absurd rfl h | cons => simp
  rw [List.length_drop]; omega
theorem runesL_nil : runesL [] = [] := by rw [runesL]; rfl
theorem runesL_next (l : List UInt8) (h : l ≠ []) : runesL l = (decL l).1 :: runesL (l.drop (decL l).2) := by rw [runesL, dif_neg h]
theorem runesL_ascii (b : UInt8) (t : List UInt8) (hb : b.toNat < 128) : runesL (b :: t) = b.toNat :: runesL t := by
  rw [runesL_next _ (by simp), decL_ascii b t hb]; rfl
theorem runesL_enc {c : Nat} {p : List UInt8} (h : Enc c p) (t : List UInt8) : runesL (p ++ t) = c :: runesL t := by
  have hn : p ++ t ≠ [] := by
    intro e
    have := congrArg List.length e
    have := h.1
    simp only [List.length_append, List.length_nil] at *
    omega
  rw [runesL_next _ hn, h.2.2.2.2.2.2 t, List.drop_left]
theorem runesL_bad {b : UInt8} {t : List UInt8} (hd : decL (b :: t) = (65533, 1)) : runesL (b :: t) = 65533 :: runesL t := by
  rw [runesL_next _ (by simp), hd]; rfl

/-- Induction over a text's runes. -/
theorem rune_ind {Q : List UInt8 → Prop} (h0 : Q []) (h1 : ∀ b t, b.toNat < 128 → Q t → Q (b :: t)) (h2 : ∀ b t, 128 ≤ b.toNat → decL (b :: t) = (65533, 1) → Q t → Q (b :: t))
    (h3 : ∀ c p t, Enc c p → Q t → Q (p ++ t)) (l : List UInt8) : Q l := by
  induction hn : l.length using Nat.strongRecOn generalizing l with
  | _ n ih =>
    by_cases he : l = []
    · subst he; exact h0
    cases shape_of l he with
    | ascii b t hb hd => exact h1 b t hb (ih t.length (by simp at hn; omega) t rfl)
    | bad b t hb hd => exact h2 b t hb hd (ih t.length (by simp at hn; omega) t rfl)
    | enc c p t hp => exact h3 c p t hp (ih t.length (by have := hp.1; simp at hn; omega) t rfl)

theorem runesL_length (l : List UInt8) : (runesL l).length ≤ l.length := by
  refine rune_ind (Q := fun l => (runesL l).length ≤ l.length) (by rw [runesL_nil]; simp) ?_ ?_ ?_ l
  · intro b t hb ih; rw [runesL_ascii b t hb]; simp; omega
  · intro b t hb hd ih; rw [runesL_bad hd]; simp; omega
  · intro c p t hp ih; rw [runesL_enc hp]; have := hp.1; simp; omega
theorem runesL_zero {l : List UInt8} (h : (runesL l).length = 0) : l = [] := by
  by_cases he : l = []
  · exact he
  · rw [runesL_next l he] at h; simp at h
theorem runesL_append (a x : List UInt8) : (∀ c ∈ runesL a, c ≠ 65533) → runesL (a ++ x) = runesL a ++ runesL x := by
  refine rune_ind (Q := fun a => (∀ c ∈ runesL a, c ≠ 65533) → runesL (a ++ x) = runesL a ++ runesL x) (fun _ => by rw [runesL_nil]; rfl) ?_ ?_ ?_ a
  · intro b t hb ih h
    rw [List.cons_append, runesL_ascii b _ hb, runesL_ascii b t hb, List.cons_append, ih (fun c hc => h c (by rw [runesL_ascii b t hb]; exact List.mem_cons_of_mem _ hc))]
  · intro b t hb hd ih h
    exact absurd rfl (h 65533 (by rw [runesL_bad hd]; exact List.mem_cons_self))
  · intro c p t hp ih h
    rw [List.append_assoc, runesL_enc hp, runesL_enc hp, List.cons_append, ih (fun c' hc => h c' (by rw [runesL_enc hp]; exact List.mem_cons_of_mem _ hc))]

/-- Great letters made small: a byte, a rune. -/
def lowB (b : UInt8) : UInt8 := if 65 ≤ b.toNat ∧ b.toNat ≤ 90 then b + 32 else b
def lowN (n : Nat) : Nat := if 65 ≤ n ∧ n ≤ 90 then n + 32 else n
theorem lowB_toNat (b : UInt8) : (lowB b).toNat = lowN b.toNat := by
  unfold lowB lowN
  by_cases h : 65 ≤ b.toNat ∧ b.toNat ≤ 90
  · rw [if_pos h, if_pos h, UInt8.toNat_add]; simp; omega
  · rw [if_neg h, if_neg h]
theorem lowB_high {b : UInt8} (h : 128 ≤ b.toNat) : lowB b = b := by unfold lowB; rw [if_neg (by omega)]
theorem lowB_back {b : UInt8} (h : 128 ≤ (lowB b).toNat) : lowB b = b := by
  rw [lowB_toNat] at h
  unfold lowN at h
  unfold lowB
  split at h
  · omega
  · rename_i g; rw [if_neg g]
theorem lowB_twice (b : UInt8) : lowB (lowB b) = lowB b := by
  by_cases h : 65 ≤ b.toNat ∧ b.toNat ≤ 90
  · have e : (lowB b).toNat = b.toNat + 32 := by rw [lowB_toNat]; unfold lowN; rw [if_pos h]
    generalize lowB b = c at e ⊢
    unfold lowB
    rw [if_neg (by omega)]
  · have : lowB b = b := by unfold lowB; rw [if_neg h]
    rw [this, this]
theorem map_high {p : List UInt8} (h : ∀ b ∈ p, 128 ≤ b.toNat) : p.map lowB = p := by
  induction p with
  | nil => rfl
  | cons b t ih => rw [List.map_cons, lowB_high (h b List.mem_cons_self), ih (fun x hx => h x (List.mem_cons_of_mem _ hx))]
theorem map_back {p : List UInt8} (h : ∀ b ∈ p.map lowB, 128 ≤ b.toNat) : p.map lowB = p := by
  induction p with
  | nil => rfl
  | cons b t ih => rw [List.map_cons] at h ⊢; rw [lowB_back (h _ List.mem_cons_self), ih (fun x hx => h x (List.mem_cons_of_mem _ hx))]
theorem lowN_lt {n : Nat} (h : n < 128) : lowN n < 128 := by unfold lowN; split <;> omega
theorem lowN_high {n : Nat} (h : 128 ≤ n) : lowN n = n := by unfold lowN; rw [if_neg (by omega)]
theorem decL_low_bad {b : UInt8} {t : List UInt8} (hb : 128 ≤ b.toNat) (hd : decL (b :: t) = (65533, 1)) : decL (lowB b :: t.map lowB) = (65533, 1) := by
  generalize hl : lowB b :: t.map lowB = l
  cases shape_of l (by rw [← hl]; simp) with
  | ascii b' t' hb' hd' =>
    cases hl
    rw [lowB_high hb] at hb'; omega
  | bad b' t' hb' hd' => exact hd'
  | enc c p t' hp =>
    exfalso
    have h1 : (b :: t).map lowB = p ++ t' := hl
    have h2 : ((b :: t).take p.length).map lowB = p := by rw [List.map_take, h1, List.take_left]
    have h3 : (b :: t).take p.length = p := by
      rw [← map_back (p := (b :: t).take p.length) (by rw [h2]; exact hp.2.2.2.2.2.1), h2]
    have h4 := hp.2.2.2.2.2.2 ((b :: t).drop p.length)
    rw [← h3, List.length_take] at h4
    rw [show min p.length (b :: t).length = p.length by
      have := congrArg List.length h1
      rw [List.length_map, List.length_append] at this
      omega] at h4
    rw [h3] at h4
    have h5 : p ++ (b :: t).drop p.length = b :: t := by
      have h6 := List.take_append_drop p.length (b :: t)
      rw [h3] at h6
      exact h6
    rw [h5, hd] at h4
    have := hp.1
    simp only [Prod.mk.injEq] at h4
    omega
theorem runesL_low (l : List UInt8) : runesL (l.map lowB) = (runesL l).map lowN := by
  refine rune_ind (Q := fun l => runesL (l.map lowB) = (runesL l).map lowN) (by rw [List.map_nil, runesL_nil]; rfl) ?_ ?_ ?_ l
  · intro b t hb ih
    rw [List.map_cons, runesL_ascii _ _ (by rw [lowB_toNat]; exact lowN_lt hb), runesL_ascii b t hb, List.map_cons, ih, lowB_toNat]
  · intro b t hb hd ih
    rw [List.map_cons, runesL_bad (decL_low_bad hb hd), runesL_bad hd, List.map_cons, ih, lowN_high (by omega)]
  · intro c p t hp ih
    rw [List.map_append, map_high hp.2.2.2.2.2.1, runesL_enc hp, runesL_enc hp, List.map_cons, ih, lowN_high hp.2.2.1]
theorem enc_ascii {n : Nat} (h : n < 128) : Lib.encodeRune n = [UInt8.ofNat n] := by
  unfold Lib.encodeRune
  rw [Lib.encodeRuneZ_one (by omega) (by omega)]
  simp
/-- Its runes written anew, great letters made small: the bytes, great letters made small. -/
theorem runesL_write (l : List UInt8) : (∀ c ∈ runesL l, c ≠ 65533) → (runesL l).flatMap (fun c => Lib.encodeRune (lowN c : Nat)) = l.map lowB := by
  refine rune_ind (Q := fun l => (∀ c ∈ runesL l, c ≠ 65533) → (runesL l).flatMap (fun c => Lib.encodeRune (lowN c : Nat)) = l.map lowB) (fun _ => by rw [runesL_nil]; rfl) ?_ ?_ ?_ l
  · intro b t hb ih h
    rw [runesL_ascii b t hb] at h ⊢
    rw [List.flatMap_cons, List.map_cons, ih (fun c hc => h c (List.mem_cons_of_mem _ hc)), enc_ascii (lowN_lt hb), ← lowB_toNat]
    simp
  · intro b t hb hd ih h
    exact absurd rfl (h 65533 (by rw [runesL_bad hd]; exact List.mem_cons_self))
  · intro c p t hp ih h
    rw [runesL_enc hp] at h ⊢
    rw [List.flatMap_cons, List.map_append, ih (fun c' hc => h c' (List.mem_cons_of_mem _ hc)), lowN_high hp.2.2.1, ← hp.2.2.2.2.1, map_high hp.2.2.2.2.2.1]

theorem runes_head (b : UInt8) (t : List UInt8) : (runesL (b :: t)).head? = some 32 ↔ b = 32 := by
  have hb32 : b = 32 ↔ b.toNat = 32 := by rw [← UInt8.toNat_inj]; rfl
  rw [runesL_next _ (by simp), List.head?_cons, Option.some.injEq, hb32]
  generalize hl : b :: t = l
  cases shape_of l (by rw [← hl]; simp) with
  | ascii b' t' hb' hd' => cases hl; rw [hd']
  | bad b' t' hb' hd' => cases hl; rw [hd']; simp; omega
  | enc c p t' hp =>
    rw [hp.2.2.2.2.2.2 t']
    have h1 : 128 ≤ b.toNat := by
      have := hp.1
      match p, this with
      | x :: p', _ => cases hl; exact hp.2.2.2.2.2.1 _ List.mem_cons_self
    have := hp.2.2.1
    simp only
    omega
theorem getLast_app (p t : List UInt8) (he : t ≠ []) : (p ++ t).getLast? = t.getLast? := by
  rw [List.getLast?_append]
  cases h : t.getLast? with
  | none => exact absurd (List.getLast?_eq_none_iff.1 h) he
  | some x => rfl
theorem runes_last (l : List UInt8) : (runesL l).getLast? = some 32 ↔ l.getLast? = some 32 := by
  refine rune_ind (Q := fun l => (runesL l).getLast? = some 32 ↔ l.getLast? = some 32) (by rw [runesL_nil]; simp) ?_ ?_ ?_ l
  · intro b t hb ih
    rw [runesL_ascii b t hb]
    by_cases he : t = []
    · subst he
      rw [runesL_nil]
      simp only [List.getLast?_singleton, Option.some.injEq]
      rw [← UInt8.toNat_inj]; rfl
    · rw [List.getLast?_cons_of_ne_nil (fun e => he (runesL_zero (by rw [e]; rfl))), List.getLast?_cons_of_ne_nil he, ih]
  · intro b t hb hd ih
    rw [runesL_bad hd]
    by_cases he : t = []
    · subst he
      rw [runesL_nil]
      simp only [List.getLast?_singleton, Option.some.injEq]
      rw [← UInt8.toNat_inj]
      constructor
      · intro h; omega
      · intro h; rw [h] at hb; exact absurd hb (by decide)
    · rw [List.getLast?_cons_of_ne_nil (fun e => he (runesL_zero (by rw [e]; rfl))), List.getLast?_cons_of_ne_nil he, ih]
  · intro c p t hp ih
    rw [runesL_enc hp]
    by_cases he : t = []
    · subst he
      rw [runesL_nil, List.append_nil]
      simp only [List.getLast?_singleton, Option.some.injEq]
      have := hp.2.2.1
      constructor
      · intro h; omega
      · intro h
        have h1 := hp.2.2.2.2.2.1 32 (List.mem_of_getLast? h)
        exact absurd h1 (by decide)
    · rw [List.getLast?_cons_of_ne_nil (fun e => he (runesL_zero (by rw [e]; rfl))), getLast_app p t he, ih]
end Go.Proofs.YtboienifeciidaaDoor
