/-
  Contract of the document's own Wrong. No statement of the seed is proved here.
-/
import Derived.Test.YtpnpimhfakfolaaR91
import Derived.Test.YtpnpimhfakfolaaRs4
import Derived.Deep.QuietTactic
namespace Go.Proofs.Ytpnpimhfakfolaa
open Go.RowKit
set_option linter.unusedVariables false

theorem wrong9_arg (y z : Int) (A1 : Option Addr) (m c1 : Nat) (A2 : Option Addr) (n2 c2 : Nat) (ls : List (List UInt8)) (w : World) (hl : RdL w A2 n2 c2 ls) (h : m ≠ n2 ∨ one1 ls = false) :
    Calls Try.prog 36 #[.int .i64 y, .int .i64 z, .slice A1 m c1, .slice A2 n2 c2] w fun e w' => e = .returned (.int .i64 14) ∧ Kept [] w w' := by
  by_cases he : m = n2
  · subst he
    have hone := h.resolve_left (fun h => h rfl)
    have HO := Lib.hid (alike9_any A2 m c2 ls w hl)
    rw [hone] at HO
    clear hl h hone
    go_enter Try.func36, Try.ntmps36
    go_wp2_with fail
    refine HO.out.mono ?_
    rintro e w' ⟨rfl, hk⟩
    go_wp2
    go_ret
    exact ⟨rfl, hk⟩
  · have hE : ((m : Int) != (n2 : Int)) = true := by simp; omega
    clear hl h
    go_enter Try.func36, Try.ntmps36
    go_wp2
    go_ret
    exact ⟨rfl, Kept.refl _ _⟩
/-- What is wrong with numbers. -/
def WrRet (n k m : Nat) (f : Nat → Int) (w : World) (e : Ending) (w' : World) : Prop := ∃ E : Int, e = .returned (.int .i64 E) ∧ Kept [] w w' ∧ Hid ((¬ unlP n m f ∧ E = 3) ∨ (unlP n m f ∧ m < k ∧ E = 10) ∨ (unlP n m f ∧ k ≤ m ∧ E = 0))
set_option maxRecDepth 100000 in
set_option maxHeartbeats 2000000 in
theorem wrong9_any (k n : Nat) (y z : Int) (A1 : Option Addr) (m c1 : Nat) (f : Nat → Int) (A2 : Option Addr) (c2 : Nat) (ls : List (List UInt8)) (w : World) (hy : y = (k : Int)) (hz : z = (n : Int)) (hn : n ≤ 255) (hk : k ≤ 255) (h1 : RdI w A1 m c1 f) (hl : RdL w A2 m c2 ls) (hone : one1 ls = true) :
    Calls Try.prog 36 #[.int .i64 y, .int .i64 z, .slice A1 m c1, .slice A2 m c2] w (WrRet n k m f w) := by
  subst hy hz
  have HO := Lib.hid (alike9_any A2 m c2 ls w hl)
  rw [hone] at HO
  have H1 := Lib.hid h1
  have b1 := RdV.cap h1
  have b2 := RdV.most h1
  unfold maxLen at b2
  clear hl h1 hone
  go_enter Try.func36, Try.ntmps36
  go_wp2_with fail
  refine HO.out.mono ?_
  rintro e w1 ⟨rfl, hk1⟩
  have HK1 := Lib.hid hk1
  clear hk1 HO
  go_wp2
  go_loopw [9] (fun i wr => ∃ t : Nat, t ≤ m ∧ i = .int .i64 (t : Int) ∧ Hid (unlP n t f) ∧ Hid (Kept [] w wr)) (fun i _ => m - (intOf i).toNat)
  case atStart => exact ⟨0, by omega, rfl, Lib.hid (fun i h => by omega), HK1⟩
  case round =>
    clear HK1
    obtain ⟨t, ht, rfl, HU, HK⟩ := hrel
    by_cases hlt : t < m
    · obtain ⟨b, off, rfl, hb, d1⟩ := (H1.out.kept0 HK.out).at_ hlt
      obtain ⟨v, hv⟩ : ∃ v, v = f t := ⟨_, rfl⟩
      rw [← hv] at d1
      by_cases hin : 0 ≤ v ∧ v < (n : Int)
      · obtain ⟨hin1, hin2⟩ := hin
        have HV := Lib.hid hv
        have HIn : Hid (0 ≤ f t ∧ f t < (n : Int)) := Lib.hid (by rw [← hv]; exact ⟨hin1, hin2⟩)
        obtain ⟨wz, hwz⟩ : ∃ wz, wz = wr := ⟨_, rfl⟩
        rw [← hwz] at HK d1 ⊢
        clear hv hwz hb
        go_wp2
        clear d1
        go_loopw [10] (fun i wr => ∃ j : Nat, j ≤ t ∧ i = .int .i64 (j : Int) ∧ Hid (∀ i, i < j → f i ≠ f t) ∧ Hid (Kept [] w wr)) (fun i _ => t - (intOf i).toNat)
        case atStart => exact ⟨0, by omega, rfl, Lib.hid (fun i h => by omega), HK⟩
        case round =>
          clear HK
          obtain ⟨j, hj, rfl, HD, HK⟩ := hrel
          by_cases hltj : j < t
          · obtain ⟨b', off', e0, hb', d2⟩ := (H1.out.kept0 HK.out).at_ (i := j) (by omega)
            injection e0 with e0
            injection e0 with e1 e2
            subst e1 e2
            obtain ⟨b', off', e0, hb2, d1⟩ := (H1.out.kept0 HK.out).at_ (i := t) (by omega)
            injection e0 with e0
            injection e0 with e1 e2
            subst e1 e2
            have hjm : j < m := by omega
            obtain ⟨u, hu⟩ : ∃ u, u = f j := ⟨_, rfl⟩
            rw [← hu] at d2
            rw [← HV.out] at d1
            by_cases he : u = v
            · have HF : Hid (¬ unlP n m f) := Lib.hid (fun h => (h t hlt).2 j hltj (by rw [← hu, he, HV.out]))
              have hE : (u == v) = true := by simpa using he
              clear hb' hb2 hu he
              go_wp2
              go_quiet (fail)
              go_wp2
              go_ret
              exact ⟨3, rfl, HK.out.drewN _, Lib.hid (.inl ⟨HF.out, rfl⟩)⟩
            · have HD2 : Hid (∀ i, i < j + 1 → f i ≠ f t) := Lib.hid (fun i hi e => by
                by_cases h : i < j
                · exact HD.out i h e
                · obtain rfl : i = j := by omega
                  exact he (by rw [hu, e, HV.out]))
              have hE : (u == v) = false := by simpa using he
              clear hb' hb2 hu he HD
              go_wp2
              go_quiet (fail)
              go_wp2
              go_roundw
              case rel => exact ⟨j + 1, by omega, by go_num, HD2, Lib.hid (HK.out.drewN _)⟩
              case measure => simp [intOf]; omega
          · obtain rfl : t = j := by omega
            have HU2 : Hid (unlP n (t + 1) f) := Lib.hid (by
              intro i hi
              by_cases e : i = t
              · subst e
                exact ⟨HIn.out, HD.out⟩
              · exact HU.out i (by omega))
            clear HD HU
            go_wp2
            go_roundw
            case rel => exact ⟨t + 1, by omega, by go_num, HU2, HK⟩
            case measure => simp [intOf]; omega
      · have HF : Hid (¬ unlP n m f) := Lib.hid (fun h => hin (by rw [hv]; exact (h t hlt).1))
        clear hv hb
        rcases Int.lt_or_le v 0 with h0 | h0
        · clear hin
          go_wp2
          go_ret
          exact ⟨3, rfl, HK.out, Lib.hid (.inl ⟨HF.out, rfl⟩)⟩
        · have h5 : (n : Int) ≤ v := by omega
          clear hin
          go_wp2
          go_ret
          exact ⟨3, rfl, HK.out, Lib.hid (.inl ⟨HF.out, rfl⟩)⟩
    · obtain rfl : m = t := by omega
      by_cases hmk : m < k
      · go_wp2
        go_ret
        exact ⟨10, rfl, HK.out, Lib.hid (.inr (.inl ⟨HU.out, hmk, rfl⟩))⟩
      · go_wp2
        go_ret
        exact ⟨0, rfl, HK.out, Lib.hid (.inr (.inr ⟨HU.out, by omega, rfl⟩))⟩
end Go.Proofs.Ytpnpimhfakfolaa
