/-
  Contract of layer 3's own comparison of bytes. No statement of the seed is proved here.
-/
import Derived.Test.YtibcjbelcplpjaaDoorPe
namespace Go.Proofs.YtibcjbelcplpjaaDoor
open Go.RowKit
set_option linter.unusedVariables false

theorem equal_any (A A' : Option Addr) (n n' c c' : Nat) (xs bs : List UInt8) (w : World) (ha : RdB w A n c xs) (hb : RdB w A' n' c' bs) :
    Calls Tryd.prog 52 #[.slice A n c, .slice A' n' c'] w fun e w' => e = .returned (.bool (xs == bs)) ∧ ∃ m, w' = w.drewN m := by
  have hm := ha.cap
  have hm2 := ha.most
  have hm3 := hb.cap
  have hm4 := hb.most
  have hla := ha.len
  have hlb := hb.len
  unfold maxLen at hm2 hm4
  by_cases hne : n = n'
  · subst hne
    have HA := Lib.hid hla
    have HB := Lib.hid hlb
    clear hla hlb
    go_enter Tryd.func52, Tryd.ntmps52
    go_wp2
    go_loopw [5, 14] (fun d i wr => ∃ (k m : Nat) (x : UInt8), k ≤ n ∧ i = .int .i64 k ∧ d = .int .u8 (x.toNat : Int) ∧ wr = w.drewN m ∧ Hid (x = 0 ↔ xs.take k = bs.take k)) (fun _ i _ => n - (intOf i).toNat)
    case atStart => exact ⟨0, 0, 0, by omega, rfl, rfl, rfl, Lib.hid (by simp)⟩
    case round =>
      obtain ⟨k, m, x, hk, rfl, rfl, rfl, H⟩ := hrel
      by_cases hlt : k < n
      · obtain ⟨b, off, y, rfl, c1, g1, _⟩ := ha.byte hlt
        obtain ⟨b', off', z, rfl, c2, g2, _⟩ := hb.byte hlt
        have H' : Hid ((x ||| (y ^^^ z)) = 0 ↔ xs.take (k + 1) = bs.take (k + 1)) := Lib.hid (by rw [take_same g1 g2, or_zero_iff, xor_zero_iff, H.out])
        clear g1 g2 H
        go_wp2
        go_quiet (fail)
        go_wp2
        go_roundw
        case rel => exact ⟨k + 1, m + nq, _, by omega, by go_num, by rw [bits_xorB, bits_orB], rfl, H'⟩
        case measure => simp [intOf]; omega
      · obtain rfl : n = k := by omega
        have hb0 : ((x.toNat : Int) == 0) = (xs == bs) := by
          have h1 := H.out
          rw [List.take_of_length_le (by have := HA.out; omega), List.take_of_length_le (by have := HB.out; omega)] at h1
          by_cases h : xs = bs
          · have hx := h1.2 h
            subst hx; simp [h]
          · have hx : x ≠ 0 := fun e => h (h1.1 e)
            have : x.toNat ≠ 0 := fun e => hx (UInt8.toNat_inj.1 e)
            have h3 : ((x.toNat : Int) == 0) = false := by simp; omega
            rw [h3]; simp [h]
        clear H
        go_wp2
        go_ret
        exact ⟨rfl, m, rfl⟩
  · have hab : (xs == bs) = false := by
      simp only [beq_eq_false_iff_ne, ne_eq]
      rintro rfl; omega
    rw [hab]
    clear hla hlb hab
    go_enter Tryd.func52, Tryd.ntmps52
    go_wp2
    go_ret
    exact ⟨rfl, 0, rfl⟩

end Go.Proofs.YtibcjbelcplpjaaDoor
