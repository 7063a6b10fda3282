/-
  Plain mathematics of layer 13: a frame's name: hexadecimal digits, decimal digits; unlike ones are unlike. Nothing of the program here.
-/
import Derived.Test.YtibcjbelcplpjaaDoorBinMath
namespace Go.Proofs.YtibcjbelcplpjaaDoor
set_option linter.unusedVariables false

def hexD (d : Nat) : UInt8 := if d < 10 then UInt8.ofNat (48 + d) else UInt8.ofNat (87 + d)
def hex2 (b : UInt8) : List UInt8 := [hexD (b.toNat / 16), hexD (b.toNat % 16)]
def hexL : List UInt8 → List UInt8
  | [] => []
  | b :: r => hex2 b ++ hexL r
theorem hexL_append (a b : List UInt8) : hexL (a ++ b) = hexL a ++ hexL b := by
  induction a with
  | nil => rfl
  | cons x r ih => simp [hexL, ih]
theorem hexL_length (a : List UInt8) : (hexL a).length = 2 * a.length := by
  induction a with
  | nil => rfl
  | cons x r ih => simp [hexL, hex2, ih]; omega
theorem hexD_val {d : Nat} (h : d < 16) : (hexD d).toNat = if d < 10 then 48 + d else 87 + d := by
  unfold hexD
  split <;> rw [ofNat_toNat] <;> omega
theorem hexD_inj {d e : Nat} (hd : d < 16) (he : e < 16) (h : hexD d = hexD e) : d = e := by
  have h1 := congrArg UInt8.toNat h
  rw [hexD_val hd, hexD_val he] at h1
  split at h1 <;> split at h1 <;> omega
theorem hexL_inj : ∀ {a b : List UInt8}, hexL a = hexL b → a = b
  | [], [], _ => rfl
  | [], y :: s, h => by simp [hexL, hex2] at h
  | x :: r, [], h => by simp [hexL, hex2] at h
  | x :: r, y :: s, h => by
    simp only [hexL, hex2, List.cons_append, List.nil_append, List.cons.injEq] at h
    obtain ⟨h1, h2, h3⟩ := h
    have hx := x.toNat_lt
    have hy := y.toNat_lt
    have e1 := hexD_inj (by omega) (by omega) h1
    have e2 := hexD_inj (by omega) (by omega) h2
    rw [hexL_inj h3, show x = y from UInt8.toNat_inj.1 (by omega)]

/-- A number's digits. -/
@[irreducible] def decN (n : Nat) : List UInt8 := if h : n < 10 then [UInt8.ofNat (48 + n)] else decN (n / 10) ++ [UInt8.ofNat (48 + n % 10)]
termination_by n
theorem decN_lo {n : Nat} (h : n < 10) : decN n = [UInt8.ofNat (48 + n)] := by unfold decN; rw [dif_pos h]
theorem decN_hi {n : Nat} (h : ¬ n < 10) : decN n = decN (n / 10) ++ [UInt8.ofNat (48 + n % 10)] := by rw [decN, dif_neg h]
def decV (l : List UInt8) : Nat := l.foldl (fun x b => x * 10 + (b.toNat - 48)) 0
theorem decV_snoc (l : List UInt8) (b : UInt8) : decV (l ++ [b]) = decV l * 10 + (b.toNat - 48) := by simp [decV]
theorem decV_decN (n : Nat) : decV (decN n) = n := by
  induction n using Nat.strongRecOn with
  | ind n ih =>
    by_cases h : n < 10
    · rw [decN_lo h]
      show 0 * 10 + ((UInt8.ofNat (48 + n)).toNat - 48) = n
      rw [ofNat_toNat]
      omega
    · rw [decN_hi h, decV_snoc, ih (n / 10) (by omega), ofNat_toNat]
      omega
theorem decN_inj {a b : Nat} (h : decN a = decN b) : a = b := by rw [← decV_decN a, h, decV_decN b]
theorem decN_head (n : Nat) : ∃ b r, decN n = b :: r ∧ b.toNat ≠ 45 := by
  induction n using Nat.strongRecOn with
  | ind n ih =>
    by_cases h : n < 10
    · exact ⟨_, [], decN_lo h, by rw [ofNat_toNat]; omega⟩
    · obtain ⟨b, r, e, hb⟩ := ih (n / 10) (by omega)
      exact ⟨b, r ++ [UInt8.ofNat (48 + n % 10)], by rw [decN_hi h, e]; rfl, hb⟩
@[irreducible] def decZ (z : Int) : List UInt8 := if z < 0 then 45 :: decN z.natAbs else decN z.natAbs
theorem decZ_neg {z : Int} (h : z < 0) : decZ z = 45 :: decN z.natAbs := by unfold decZ; rw [if_pos h]
theorem decZ_pos {z : Int} (h : ¬ z < 0) : decZ z = decN z.natAbs := by unfold decZ; rw [if_neg h]
theorem decZ_inj {a b : Int} (h : decZ a = decZ b) : a = b := by
  by_cases ha : a < 0
  · by_cases hb : b < 0
    · rw [decZ_neg ha, decZ_neg hb] at h
      have := decN_inj (List.cons.inj h).2
      omega
    · rw [decZ_neg ha, decZ_pos hb] at h
      obtain ⟨x, r, e, hx⟩ := decN_head b.natAbs
      rw [e] at h
      exact absurd (congrArg UInt8.toNat (List.cons.inj h).1).symm hx
  · by_cases hb : b < 0
    · rw [decZ_pos ha, decZ_neg hb] at h
      obtain ⟨x, r, e, hx⟩ := decN_head a.natAbs
      rw [e] at h
      exact absurd (congrArg UInt8.toNat (List.cons.inj h).1) hx
    · rw [decZ_pos ha, decZ_pos hb] at h
      have := decN_inj h
      omega
theorem decN_length {n k : Nat} (h : n < 10 ^ k) (hk : 1 ≤ k) : (decN n).length ≤ k := by
  induction k generalizing n with
  | zero => omega
  | succ k ih =>
    by_cases hn : n < 10
    · rw [decN_lo hn]; simp
    · rw [decN_hi hn, List.length_append, List.length_singleton]
      have hk1 : 1 ≤ k := by
        rcases Nat.eq_zero_or_pos k with h0 | h0
        · subst h0; simp at h; omega
        · exact h0
      have := ih (n := n / 10) (by rw [Nat.pow_succ] at h; omega) hk1
      omega
/-- A frame's name. -/
@[irreducible] def nameL (o : List UInt8) (z : Int) : List UInt8 := 102 :: (hexL o ++ (46 :: decZ z))
theorem nameL_inj {o o' : List UInt8} {z z' : Int} (hl : o.length = o'.length) : nameL o z = nameL o' z' ↔ o = o' ∧ z = z' := by
  constructor
  · intro h
    unfold nameL at h
    have h1 := (List.cons.inj h).2
    obtain ⟨h2, h3⟩ := List.append_inj h1 (by rw [hexL_length, hexL_length, hl])
    exact ⟨hexL_inj h2, decZ_inj (List.cons.inj h3).2⟩
  · rintro ⟨rfl, rfl⟩
    rfl
end Go.Proofs.YtibcjbelcplpjaaDoor
