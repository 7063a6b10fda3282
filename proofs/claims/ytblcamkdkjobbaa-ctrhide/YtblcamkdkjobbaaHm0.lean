/-
  Contract of the document's own comparison of bytes. No statement of the seed is proved here.
-/
import Derived.Test.YtblcamkdkjobbaaRef1
import Derived.Test.YtblcamkdkjobbaaWd
namespace Go.Proofs.Ytblcamkdkjobbaa
open Go.RowKit
set_option linter.unusedVariables false

theorem take_same {a b : List UInt8} {k : Nat} {x y : UInt8} (hx : a[k]? = some x) (hy : b[k]? = some y) : a.take (k + 1) = b.take (k + 1) ↔ a.take k = b.take k ∧ x = y := by
  have e1 : a.take (k + 1) = a.take k ++ [x] := by rw [List.take_add_one, hx]; rfl
  have e2 : b.take (k + 1) = b.take k ++ [y] := by rw [List.take_add_one, hy]; rfl
  rw [e1, e2]
  constructor
  · intro h
    have hl : (a.take k).length = (b.take k).length := by have := congrArg List.length h; simp only [List.length_append, List.length_singleton] at this; omega
    obtain ⟨h1, h2⟩ := List.append_inj h hl
    exact ⟨h1, by simpa using h2⟩
  · rintro ⟨h1, rfl⟩; rw [h1]
theorem xor_zero_iff (x y : UInt8) : x ^^^ y = 0 ↔ x = y := UInt8.xor_eq_zero_iff
theorem or_zero_iff (x y : UInt8) : x ||| y = 0 ↔ x = 0 ∧ y = 0 := UInt8.or_eq_zero_iff

theorem same_any (A A' : Option Addr) (n n' c c' : Nat) (xs bs : List UInt8) (w : World) (ha : RdB w A n c xs) (hb : RdB w A' n' c' bs) :
    Calls Try.prog 9 #[.slice A n c, .slice A' n' c'] w fun e w' => e = .returned (.bool (xs == bs)) ∧ ∃ m, w' = w.drewN m := by
  have hm := ha.cap
  have hm2 := ha.most
  have hm3 := hb.cap
  have hm4 := hb.most
  have hla := ha.len
  have hlb := hb.len
  unfold maxLen at hm2 hm4
  by_cases hne : n = n'
  · subst hne
    have HA := Lib.hid hla
    have HB := Lib.hid hlb
    clear hla hlb
    go_enter Try.func9, Try.ntmps9
    go_wp2
    go_loopw [5] (fun i wr => ∃ (k m : Nat), k ≤ n ∧ i = .int .i64 k ∧ wr = w.drewN m ∧ Hid (xs.take k = bs.take k)) (fun i _ => n - (intOf i).toNat)
    case atStart => exact ⟨0, 0, by omega, rfl, rfl, Lib.hid (by simp)⟩
    case round =>
      obtain ⟨k, m, hk, rfl, rfl, H⟩ := hrel
      by_cases hlt : k < n
      · obtain ⟨b, off, y, rfl, c1, g1, _⟩ := ha.byte hlt
        obtain ⟨b', off', z, rfl, c2, g2, _⟩ := hb.byte hlt
        have HT := Lib.hid (take_same g1 g2)
        by_cases hyz : y = z
        · subst hyz
          have H' : Hid (xs.take (k + 1) = bs.take (k + 1)) := Lib.hid (HT.out.2 ⟨H.out, rfl⟩)
          clear g1 g2 H HT
          go_wp2
          go_quiet (fail)
          go_wp2
          go_roundw
          case rel => exact ⟨k + 1, m + nq, by omega, by go_num, rfl, H'⟩
          case measure => simp [intOf]; omega
        · have hv : ((y.toNat : Int) != (z.toNat : Int)) = true := by
            have : y.toNat ≠ z.toNat := fun e => hyz (UInt8.toNat_inj.1 e)
            simp; omega
          have hab : (xs == bs) = false := by
            simp only [beq_eq_false_iff_ne, ne_eq]
            rintro rfl
            exact hyz (HT.out.1 rfl).2
          have HF := Lib.hid hab
          clear g1 g2 H HT hab hyz
          go_wp2
          go_quiet (fail)
          go_wp2
          go_ret
          exact ⟨ret_bool HF.out.symm, m + nq, by simp⟩
      · obtain rfl : n = k := by omega
        have hb0 : (xs == bs) = true := by
          have h1 := H.out
          rw [List.take_of_length_le (by have := HA.out; omega), List.take_of_length_le (by have := HB.out; omega)] at h1
          simp [h1]
        have HF := Lib.hid hb0
        clear H hb0
        go_wp2
        go_ret
        exact ⟨ret_bool HF.out.symm, m, rfl⟩
  · have hab : (xs == bs) = false := by
      simp only [beq_eq_false_iff_ne, ne_eq]
      rintro rfl; omega
    rw [hab]
    clear hla hlb hab
    go_enter Try.func9, Try.ntmps9
    go_wp2
    go_ret
    exact ⟨rfl, 0, rfl⟩
theorem same_k (A A' : Option Addr) (n n' c c' : Nat) (xs bs : List UInt8) (w : World) (ha : RdB w A n c xs) (hb : RdB w A' n' c' bs) :
    Calls Try.prog 9 #[.slice A n c, .slice A' n' c'] w fun e w' => e = .returned (.bool (xs == bs)) ∧ Kept [] w w' :=
  (same_any A A' n n' c c' xs bs w ha hb).mono fun e w' h => ⟨h.1, by obtain ⟨m, rfl⟩ := h.2; exact (Kept.refl [] w).drewN m⟩
end Go.Proofs.Ytblcamkdkjobbaa
