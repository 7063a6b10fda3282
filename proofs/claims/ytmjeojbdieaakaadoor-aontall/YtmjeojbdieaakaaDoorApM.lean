/-
  Plain mathematics of layer 11: a package that packing makes, told piece by piece. Nothing of the program here.
-/
import Derived.Test.YtmjeojbdieaakaaDoorAp7
import Derived.Test.YtmjeojbdieaakaaDoorAo9
namespace Go.Proofs.YtmjeojbdieaakaaDoor
set_option linter.unusedVariables false

theorem nouB_rep {l : List UInt8} : nouB l = true ↔ l = List.replicate l.length 0 := by
  unfold nouB
  rw [List.all_eq_true, List.eq_replicate_iff]
  simp
theorem nouB_replicate (n : Nat) : nouB (List.replicate n 0) = true := by rw [nouB_rep, List.length_replicate]
theorem lenN_in (C : Nat) (all : List UInt8) : lenN (inL C all) = inN C all := by unfold lenN inN; rfl
theorem be2_len {l : List UInt8} (h : 2 ≤ l.length) : be 2 (lenN l) = l.take 2 := by
  match l, h with
  | a :: b :: t, _ =>
    have e1 : lenN (a :: b :: t) = 256 * a.toNat + b.toNat := by unfold lenN; rfl
    have ha := a.toNat_lt
    have hb := b.toNat_lt
    rw [e1, be2, show (256 * a.toNat + b.toNat) / 256 = a.toNat by omega, UInt8.ofNat_toNat]
    have e2 : UInt8.ofNat (256 * a.toNat + b.toNat) = b := by
      apply UInt8.toNat_inj.1
      show (256 * a.toNat + b.toNat) % 256 = b.toNat
      omega
    rw [e2]
    rfl

theorem whole_wrong {C k : Nat} {all : List UInt8} (hC1 : 32 ≤ C) (hk : 1 ≤ k) (hlen : all.length = k * sizN C k) :
    wholeOk C k all = !(wrongB C (inL C all) (all.drop (C + 48))) := by
  have hm := sizN_mul (c := C) hk
  have hA : C + 48 ≤ all.length := by omega
  have hI := inL_length hA
  have hIh : hide (aesWords (keyL C all)) nil16 (inL C all) = all.take (C + 16) := by unfold inL; rw [hide_hide]
  have hkl := keyL_length hA
  obtain ⟨I, hId⟩ : ∃ I, inL C all = I := ⟨_, rfl⟩
  obtain ⟨n, hnd⟩ : ∃ n, lenN I = n := ⟨_, rfl⟩
  have hn : inN C all = n := by rw [← lenN_in, hId, hnd]
  have hsec : secL C all = (I.drop 2).take n := by unfold secL; rw [hn, hId]
  rw [hId] at hI hIh ⊢
  by_cases c1 : n ≤ 1000
  · by_cases c2 : n + 2 ≤ C
    · by_cases c3 : clsN n = C
      · have hsl : (secL C all).length = n := by rw [hsec, List.length_take, List.length_drop]; omega
        have hw : wholeOk C k all = (pkgL k (keyL C all) (secL C all) == all) := by
          unfold wholeOk
          rw [hn, decide_eq_true c1, decide_eq_true c2, decide_eq_true c3]
          rfl
        have hg : wrongB C I (all.drop (C + 48)) = !(nouB (all.drop (C + 48)) && nouB (I.drop C) && nouB ((I.drop (2 + n)).take (C - (2 + n)))) := by
          unfold wrongB
          rw [hnd, decide_eq_false (show ¬ C < n + 2 by omega), decide_eq_true (show n ≤ 1000 ∧ clsN n = C from ⟨c1, c3⟩)]
          cases nouB (all.drop (C + 48)) <;> cases nouB (I.drop C) <;> cases nouB ((I.drop (2 + n)).take (C - (2 + n))) <;> rfl
        rw [hw, hg, Bool.not_not]
        have hins : insL (secL C all) = I.take 2 ++ (I.drop 2).take n ++ List.replicate (C + 14 - n) 0 := by
          unfold insL
          rw [hsl, c3, hsec, ← hnd, be2_len (by omega)]
        have hp : pkgL k (keyL C all) (secL C all) = hide (aesWords (keyL C all)) nil16 (insL (secL C all)) ++ xorL (shaSum (hide (aesWords (keyL C all)) nil16 (insL (secL C all)))) (keyL C all) ++ List.replicate (all.length - (C + 48)) 0 := by
          unfold pkgL hidL
          rw [hsl, c3, hlen]
        have hIs : I = I.take 2 ++ (I.drop 2).take n ++ ((I.drop (2 + n)).take (C - (2 + n)) ++ I.drop C) := by
          have e1 : I = I.take 2 ++ I.drop 2 := (List.take_append_drop 2 I).symm
          have e2 : I.drop 2 = (I.drop 2).take n ++ (I.drop 2).drop n := (List.take_append_drop n _).symm
          have e3 : (I.drop 2).drop n = I.drop (2 + n) := List.drop_drop
          have e4 : I.drop (2 + n) = (I.drop (2 + n)).take (C - (2 + n)) ++ (I.drop (2 + n)).drop (C - (2 + n)) := (List.take_append_drop _ _).symm
          have e5 : (I.drop (2 + n)).drop (C - (2 + n)) = I.drop C := by rw [List.drop_drop]; congr 1; omega
          rw [List.append_assoc, ← e5, ← e4, ← e3, ← e2, ← e1]
        have hz : (nouB (I.drop C) = true ∧ nouB ((I.drop (2 + n)).take (C - (2 + n))) = true) ↔ insL (secL C all) = I := by
          constructor
          · rintro ⟨h1, h2⟩
            rw [nouB_rep] at h1 h2
            rw [hins]
            conv => rhs; rw [hIs, h1, h2]
            congr 1
            rw [List.replicate_append_replicate]
            congr 1
            rw [List.length_take, List.length_drop, List.length_drop]
            omega
          · intro h
            rw [hins] at h
            have h3 : (I.drop (2 + n)).take (C - (2 + n)) ++ I.drop C = List.replicate (C + 14 - n) 0 := by
              have h4 := h.trans hIs
              exact ((List.append_right_inj _).1 h4).symm
            have h5 := List.append_eq_replicate_iff.1 h3
            obtain ⟨_, h6, h7⟩ := h5
            exact ⟨by rw [h7]; exact nouB_replicate _, by rw [h6]; exact nouB_replicate _⟩
        rw [Bool.eq_iff_iff, beq_iff_eq, Bool.and_eq_true, Bool.and_eq_true, and_assoc, hz]
        constructor
        · intro h
          rw [hp] at h
          have hl1 : (hide (aesWords (keyL C all)) nil16 (insL (secL C all))).length = C + 16 := by rw [hide_length, insL_length (by omega), hsl, c3]
          have hx : (xorL (shaSum (hide (aesWords (keyL C all)) nil16 (insL (secL C all)))) (keyL C all)).length = 32 := by rw [xorL_length (by rw [shaSum_length, hkl]), hkl]
          constructor
          · have h2 := congrArg (fun l => l.drop (C + 48)) h
            rw [List.append_assoc, List.drop_append, List.drop_of_length_le (by omega), List.nil_append, List.drop_append, List.drop_of_length_le (by omega), List.nil_append, hl1, hx, show C + 48 - (C + 16) - 32 = 0 by omega, List.drop_zero] at h2
            rw [← h2]
            exact nouB_replicate _
          · have h2 := congrArg (fun l => l.take (C + 16)) h
            rw [List.append_assoc, List.take_append_of_le_length (by omega), List.take_of_length_le (by omega), ← hIh] at h2
            have h3 := congrArg (hide (aesWords (keyL C all)) nil16) h2
            rw [hide_hide, hide_hide] at h3
            exact h3
        · rintro ⟨h1, h2⟩
          rw [hp, h2, hIh]
          rw [nouB_rep, List.length_drop] at h1
          rw [← h1]
          have h3 : xorL (shaSum (all.take (C + 16))) (keyL C all) = (all.drop (C + 16)).take 32 := by
            unfold keyL
            exact xorL_self (by rw [shaSum_length, List.length_take, List.length_drop]; omega)
          rw [h3]
          have h4 : all.drop (C + 48) = (all.drop (C + 16)).drop 32 := by rw [List.drop_drop]
          rw [h4, List.append_assoc, List.take_append_drop, List.take_append_drop]
      · have hw : wholeOk C k all = false := by unfold wholeOk; rw [hn, decide_eq_false c3]; simp
        have hg : wrongB C I (all.drop (C + 48)) = true := by unfold wrongB; rw [hnd, decide_eq_false (show ¬ (n ≤ 1000 ∧ clsN n = C) from fun h => c3 h.2)]; simp
        rw [hw, hg]; rfl
    · have hw : wholeOk C k all = false := by unfold wholeOk; rw [hn, decide_eq_false c2]; simp
      have hg : wrongB C I (all.drop (C + 48)) = true := by unfold wrongB; rw [hnd, decide_eq_true (show C < n + 2 by omega)]; simp
      rw [hw, hg]; rfl
  · have hw : wholeOk C k all = false := by unfold wholeOk; rw [hn, decide_eq_false c1]; simp
    have hg : wrongB C I (all.drop (C + 48)) = true := by unfold wrongB; rw [hnd, decide_eq_false (show ¬ (n ≤ 1000 ∧ clsN n = C) from fun h => c1 h.1)]; simp
    rw [hw, hg]; rfl
end Go.Proofs.YtmjeojbdieaakaaDoor
