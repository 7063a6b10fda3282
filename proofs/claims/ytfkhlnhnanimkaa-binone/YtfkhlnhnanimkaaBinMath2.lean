/-
  Plain mathematics of layer 1, going on: what was put is taken. Nothing of the program here.
-/
import Derived.Test.YtfkhlnhnanimkaaBinMath
namespace Go.Proofs.Ytfkhlnhnanimkaa

theorem tnum_be (n x : Nat) (rest : List UInt8) (h1 : 1 ≤ n) (h8 : n ≤ 8) (hx : x < 256 ^ n) : tnum (be n x ++ rest) n = (x, n, 0) := by
  unfold tnum
  have hl := be_length n x
  rw [if_neg (by omega), Int.toNat_natCast, if_neg (by rw [List.length_append, hl]; omega), List.take_append_of_le_length (by omega), List.take_of_length_le (by omega), num_be n x hx]

theorem tsm_sm (x most : Nat) (rest : List UInt8) (hx : x < 4294967296) (hm : x ≤ most) : tsm (sm x ++ rest) most = (x, 1 + fol x, 0) := by
  unfold sm fol
  by_cases h : x ≤ 250
  · have e : (UInt8.ofNat x).toNat = x := by rw [ofNat_toNat]; omega
    rw [if_pos h, if_pos h]
    simp only [List.singleton_append, tsm, e]
    rw [if_neg (by omega), if_pos h, if_neg (by omega)]
  · have hw := wid_small x hx
    have hp := wid_pos x
    have e : (UInt8.ofNat (250 + wid x)).toNat = 250 + wid x := by rw [ofNat_toNat]; omega
    have hl := be_length (wid x) x
    have ht : (be (wid x) x ++ rest).take (wid x) = be (wid x) x := by
      rw [List.take_append_of_le_length (by omega), List.take_of_length_le (by omega)]
    rw [if_neg h, if_neg h]
    simp only [List.cons_append, tsm, e, Nat.add_sub_cancel_left]
    rw [if_neg (by omega), if_neg (by omega), if_neg (by rw [List.length_append, hl]; omega), ht, num_be _ _ (wid_lt x (by omega)), if_neg, if_neg (by omega)]
    unfold fol
    rw [if_neg h]
    simp

theorem ttext_put (bs rest : List UInt8) (most : Int) (hl : bs.length < 4294967296) (hm : (bs.length : Int) ≤ most) : ttext (sm bs.length ++ bs ++ rest) most = (bs, 1 + fol bs.length + bs.length, 0) := by
  have hs := sm_length bs.length
  have ht := tsm_sm bs.length (max most 0).toNat (bs ++ rest) hl (by omega)
  unfold ttext
  rw [List.append_assoc, ht]
  simp only
  rw [if_neg (by simp), if_neg (by simp only [List.length_append, hs]; omega), List.drop_append, ← hs, List.drop_of_length_le (Nat.le_refl _), Nat.sub_self, List.drop_zero, List.nil_append]
  rw [List.take_append_of_le_length (Nat.le_refl _), List.take_of_length_le (Nat.le_refl _)]

/-- The bytes that told a small number are those that it is put as. -/
theorem sm_of_tsm {bs : List UInt8} {most x s : Nat} (h : tsm bs most = (x, s, 0)) : bs.take s = sm x := by
  unfold tsm at h
  split at h
  · simp at h
  · rename_i b rest
    split at h
    · simp at h
    · split at h
      · split at h
        · simp at h
        · simp only [Prod.mk.injEq] at h
          obtain ⟨rfl, rfl, _⟩ := h
          unfold sm
          rw [if_pos (by assumption)]
          simp
      · split at h
        · simp at h
        · split at h
          · simp at h
          · split at h
            · simp at h
            · rename_i h5 h250 hlen hfol _
              simp only [Prod.mk.injEq] at h
              obtain ⟨rfl, rfl, _⟩ := h
              have hb := b.toNat_lt
              have hf : fol (num (rest.take (b.toNat - 250))) = b.toNat - 250 := Decidable.not_not.1 hfol
              have hl : (rest.take (b.toNat - 250)).length = b.toNat - 250 := by rw [List.length_take]; omega
              have hbe := be_num (rest.take (b.toNat - 250))
              rw [hl] at hbe
              generalize num (rest.take (b.toNat - 250)) = y at *
              have hy : ¬ y ≤ 250 := by intro hy; unfold fol at hf; rw [if_pos hy] at hf; omega
              have hw : wid y = b.toNat - 250 := by unfold fol at hf; rw [if_neg hy] at hf; exact hf
              unfold sm
              rw [if_neg hy, hw, hbe]
              have e : UInt8.ofNat (250 + (b.toNat - 250)) = b := by
                apply UInt8.toNat_inj.1
                rw [ofNat_toNat]; omega
              rw [e, Nat.add_comm, List.take_succ_cons]
end Go.Proofs.Ytfkhlnhnanimkaa
