/-
  Contracts of layer 8 (matrix): the first row that is not nothing in a column. No statement of the seed is proved here.
-/
import Derived.Test.YtmfbgogfefgglaaChecked
import Derived.Test.YtmfbgogfefgglaaMtM
import Derived.Outline
namespace Go.Proofs.Ytmfbgogfefgglaa
open Go.RowKit
set_option linter.unusedVariables false

theorem clo8_yes (Bc b o k cc c : Nat) (v : UInt8) (w : World) (hk : k ≤ 1000) (hkc : k ≤ cc) (hc : c < k) (c1 : w.cell? ⟨Bc, 0, none⟩ = some (.int .i64 (c : Int))) (c2 : w.cell? ⟨b, o + c, none⟩ = some (.int .u8 (v.toNat : Int))) (hv : (v.toNat : Int) ≠ 0) :
    Calls Try.prog 38 #[.slice (some ⟨b, o, none⟩) k cc, .pointer (some ⟨Bc, 0, none⟩)] w fun e w' => e = .returned (.bool true) ∧ w' = w := by
  go_enter Try.func38, Try.ntmps38
  go_wp2
  go_ret
  exact ⟨ret_bool (by simpa using hv), rfl⟩
theorem clo8_no (Bc b o k cc c : Nat) (w : World) (hk : k ≤ 1000) (hkc : k ≤ cc) (hc : c < k) (c1 : w.cell? ⟨Bc, 0, none⟩ = some (.int .i64 (c : Int))) (c2 : w.cell? ⟨b, o + c, none⟩ = some (.int .u8 0)) :
    Calls Try.prog 38 #[.slice (some ⟨b, o, none⟩) k cc, .pointer (some ⟨Bc, 0, none⟩)] w fun e w' => e = .returned (.bool false) ∧ w' = w := by
  go_enter Try.func38, Try.ntmps38
  go_wp2
  go_ret
  exact ⟨rfl, rfl⟩
/-- The first row from r on that is not nothing in column c, or none. -/
def IxRet (n r c : Nat) (m : Nat → Nat → GB) (w : World) (e : Ending) (w' : World) : Prop := w' = w ∧ ((e = .returned (.int .i64 (-1)) ∧ Hid (∀ i, r ≤ i → i < n → m i c = 0)) ∨ ∃ q : Nat, e = .returned (.int .i64 (q : Int)) ∧ r + q < n ∧ Hid (m (r + q) c ≠ 0))
set_option maxHeartbeats 1000000 in
theorem ixf8_any (Bc R G n k c r s : Nat) (A : Option Addr) (off : Nat → Nat) (m : Nat → Nat → GB) (w : World) (hM : OwM w R G n k off m) (hn : n ≤ 1000) (hk : k ≤ 1000) (hc : c < k) (hs : r + s = n) (hA : 0 < s → A = some ⟨R, r, none⟩) (c1 : w.cell? ⟨Bc, 0, none⟩ = some (.int .i64 (c : Int))) :
    Calls Try.prog 37 #[.slice A s s, .func (.func 38) #[] #[.pointer (some ⟨Bc, 0, none⟩)]] w (IxRet n r c m w) := by
  have HM := Lib.hid hM
  have HA := Lib.hid hA
  have HC := Lib.hid c1
  clear hM hA c1
  go_enter Try.func37, Try.ntmps37
  go_wp2
  go_loopw [8] (fun v wr => ∃ q : Nat, q ≤ s ∧ v = .int .i64 (q : Int) ∧ wr = w ∧ Hid (∀ i, r ≤ i → i < r + q → m i c = 0)) (fun v _ => s - (intOf v).toNat)
  case atStart => exact ⟨0, by omega, rfl, rfl, Lib.hid (fun i h1 h2 => by omega)⟩
  case round =>
    obtain ⟨q, hq, rfl, rfl, H⟩ := hrel
    by_cases hlt : q < s
    · obtain rfl := HA.out (by omega)
      have c2 := HM.out.row (i := r + q) (by omega)
      have c3 := HM.out.byte (i := r + q) (by omega) hc
      by_cases hv : (m (r + q) c).v = 0
      · have H' : Hid (∀ i, r ≤ i → i < r + (q + 1) → m i c = 0) := Lib.hid (fun i h1 h2 => by
          by_cases e : i < r + q
          · exact H.out i h1 e
          · obtain rfl : i = r + q := by omega
            cases hx : m (r + q) c
            rw [hx] at hv
            exact congrArg GB.mk hv)
        rw [hv] at c3
        have c3' : wr.cell? ⟨G, off (r + q) + c, none⟩ = some (.int .u8 0) := c3
        have HN : Hid (Calls Try.prog 38 #[.slice (some ⟨G, off (r + q), none⟩) k k, .pointer (some ⟨Bc, 0, none⟩)] wr fun e w' => e = .returned (.bool false) ∧ w' = wr) := Lib.hid (clo8_no Bc G _ k k c wr hk (Nat.le_refl _) hc HC.out c3')
        clear H c3 c3' hv
        go_wp2_with (go_at_call 38; refine HN.out.mono ?_; rintro e w6 ⟨rfl, h6⟩; subst h6)
        go_roundw
        case rel => exact ⟨q + 1, by omega, by go_num, trivial, H'⟩
        case measure => simp [intOf]; omega
      · have hv1 : ((m (r + q) c).v.toNat : Int) ≠ 0 := fun e => hv (UInt8.toNat_inj.1 (by exact_mod_cast e))
        have HV : Hid (m (r + q) c ≠ 0) := Lib.hid (fun e => hv (by rw [e]; rfl))
        have HN : Hid (Calls Try.prog 38 #[.slice (some ⟨G, off (r + q), none⟩) k k, .pointer (some ⟨Bc, 0, none⟩)] wr fun e w' => e = .returned (.bool true) ∧ w' = wr) := Lib.hid (clo8_yes Bc G _ k k c _ wr hk (Nat.le_refl _) hc HC.out c3 hv1)
        clear H c3 hv hv1
        go_wp2_with (go_at_call 38; refine HN.out.mono ?_; rintro e w6 ⟨rfl, h6⟩; subst h6)
        go_ret
        exact ⟨rfl, .inr ⟨q, rfl, by omega, HV⟩⟩
    · obtain rfl : s = q := by omega
      go_wp2
      go_ret
      exact ⟨rfl, .inl ⟨rfl, Lib.hid (fun i h1 h2 => H.out i h1 (by omega))⟩⟩
end Go.Proofs.Ytmfbgogfefgglaa
