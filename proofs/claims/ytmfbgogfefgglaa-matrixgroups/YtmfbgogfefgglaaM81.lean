/-
  Contracts of layer 8 (matrix): is it a matrix? No statement of the seed is proved here.
-/
import Derived.Test.YtmfbgogfefgglaaChecked
import Derived.Test.YtmfbgogfefgglaaMtM
import Derived.Outline
import Derived.Deep.QuietTactic
import Derived.BigQuiet
namespace Go.Proofs.Ytmfbgogfefgglaa
open Go.RowKit
set_option linter.unusedVariables false

theorem allowed8_yes (z : Int) (w : World) (h1 : 1 ≤ z) (h2 : z ≤ 255) : Calls Try.prog 32 #[.int .i64 z] w fun e w' => e = .returned (.bool true) ∧ w' = w := by
  go_enter Try.func32, Try.ntmps32
  go_wp2
  go_ret
  exact ⟨rfl, rfl⟩
theorem allowed8_no (z : Int) (w : World) (h : z < 1 ∨ 255 < z) : Calls Try.prog 32 #[.int .i64 z] w fun e w' => e = .returned (.bool false) ∧ w' = w := by
  rcases h with h | h
  all_goals
    go_enter Try.func32, Try.ntmps32
    go_wp2
    go_ret
    exact ⟨ret_bool (by first | rfl | exact decide_eq_false (by omega)), rfl⟩
/-- Rows of one length, from 1 to 255 rows and columns. -/
def RightP (ls : List (List UInt8)) : Prop := ∃ n k, 1 ≤ n ∧ n ≤ 255 ∧ 1 ≤ k ∧ k ≤ 255 ∧ ls.length = n ∧ ∀ l ∈ ls, l.length = k
theorem RightP.form {ls : List (List UInt8)} (h : RightP ls) : ∃ n k, 1 ≤ n ∧ n ≤ 255 ∧ 1 ≤ k ∧ k ≤ 255 ∧ ls = ofm n k (ent ls) := by
  obtain ⟨n, k, h1, h2, h3, h4, h5, h6⟩ := h
  exact ⟨n, k, h1, h2, h3, h4, ofm_ent h5 h6⟩
theorem RightP.of {n k : Nat} {m : Nat → Nat → GB} (h1 : 1 ≤ n) (h2 : n ≤ 255) (h3 : 1 ≤ k) (h4 : k ≤ 255) : RightP (ofm n k m) :=
  ⟨n, k, h1, h2, h3, h4, ofm_length _ _ _, fun l hl => by
    obtain ⟨i, hi⟩ := List.mem_iff_getElem?.1 hl
    have hin : i < n := by have := (List.getElem?_eq_some_iff.1 hi).1; rw [ofm_length] at this; exact this
    rw [ofm_get hin] at hi
    obtain rfl := Option.some.inj hi
    exact rm_length _ _⟩
theorem not_right {ls : List (List UInt8)} {n0 : Nat} {l0 : List UInt8} (hl : ls.length = n0) (h0 : ls[0]? = some l0) (h : ¬ (1 ≤ n0 ∧ n0 ≤ 255) ∨ ¬ (1 ≤ l0.length ∧ l0.length ≤ 255)) : ¬ RightP ls := by
  rintro ⟨n, k, h1, h2, h3, h4, h5, h6⟩
  have := h6 l0 (List.mem_of_getElem? h0)
  omega
def RightRet (ls : List (List UInt8)) (w : World) (e : Ending) (w' : World) : Prop := ∃ q, e = .returned (.bool q) ∧ w' = w ∧ Hid (q = true ↔ RightP ls)
def RightRetD (ls : List (List UInt8)) (w : World) (e : Ending) (w' : World) : Prop := ∃ q, e = .returned (.bool q) ∧ (∃ m, w' = w.drewN m) ∧ Hid (q = true ↔ RightP ls)
set_option maxHeartbeats 1000000 in
theorem right8_any (A : Option Addr) (n c : Nat) (ls : List (List UInt8)) (w : World) (hr : RdL w A n c ls) : Calls Try.prog 17 #[.slice A n c] w (RightRet ls w) := by
  have HR := Lib.hid hr
  have Hl := Lib.hid hr.len
  have hm := hr.cap
  have hm2 := hr.most
  unfold maxLen at hm2
  clear hr
  by_cases hn : 1 ≤ n ∧ n ≤ 255
  · obtain ⟨hn1, hn2⟩ := hn
    obtain ⟨b, off, A0, n0, c0, l0, rfl, hb, c1, g1, r1⟩ := HR.out.at_ (k := 0) (by omega)
    have hl0 := r1.len
    have b1 := r1.cap
    have b2 := r1.most
    unfold maxLen at b2
    rw [Nat.add_zero] at c1
    have G1 := Lib.hid g1
    have L0 := Lib.hid hl0
    clear r1 g1 hl0
    by_cases hk : 1 ≤ n0 ∧ n0 ≤ 255
    · obtain ⟨hk1, hk2⟩ := hk
      go_enter Try.func17, Try.ntmps17
      go_wp2_with fail
      refine (allowed8_yes _ _ (by omega) (by omega)).mono ?_
      rintro e w ⟨rfl, rfl⟩
      go_wp2_with fail
      refine (allowed8_yes _ _ (by omega) (by omega)).mono ?_
      rintro e w ⟨rfl, rfl⟩
      go_wp2
      go_loopw [19] (fun i wr => ∃ k : Nat, k ≤ n ∧ i = .int .i64 (k : Int) ∧ wr = w ∧ Hid (∀ j l, j < k → ls[j]? = some l → l.length = n0)) (fun i _ => n - (intOf i).toNat)
      case atStart => exact ⟨0, by omega, rfl, rfl, Lib.hid (fun j l h => by omega)⟩
      case round =>
        obtain ⟨k, hk, rfl, rfl, H⟩ := hrel
        by_cases hlt : k < n
        · obtain ⟨b', off', Ak, nk, ck, l, e1, hb', c2, g2, r2⟩ := HR.out.at_ hlt
          injection e1 with e1; injection e1 with e1 e2; subst e1 e2
          have hnk := r2.len
          have b3 := r2.cap
          have b4 := r2.most
          unfold maxLen at b4
          by_cases he : nk = n0
          · have H' : Hid (∀ j l, j < k + 1 → ls[j]? = some l → l.length = n0) := Lib.hid (fun j l' hj hl' => by
              by_cases h : j < k
              · exact H.out j l' h hl'
              · obtain rfl : j = k := by omega
                rw [g2] at hl'; injection hl' with hl'; subst hl'; rw [hnk]; exact he)
            clear H r2 g2 hnk
            subst he
            go_wp2
            go_roundw
            case rel => exact ⟨k + 1, by omega, by go_num, trivial, H'⟩
            case measure => simp [intOf]; omega
          · have HN : Hid (¬ RightP ls) := Lib.hid (by
              rintro ⟨n', k', _, _, _, _, _, h6⟩
              have h7 := h6 l (List.mem_of_getElem? g2)
              have h8 := h6 l0 (List.mem_of_getElem? G1.out)
              have := L0.out
              omega)
            have he1 : (nk : Int) ≠ (n0 : Int) := by omega
            clear H r2 g2 hnk
            go_wp2
            go_ret
            exact ⟨false, rfl, rfl, Lib.hid ⟨fun h => (by cases h), fun h => absurd h HN.out⟩⟩
        · obtain rfl : n = k := by omega
          have HF : Hid (RightP ls) := Lib.hid ⟨n, n0, hn1, hn2, hk1, hk2, Hl.out, fun l hl => by
            obtain ⟨j, hj⟩ := List.mem_iff_getElem?.1 hl
            exact H.out j l (by have := (List.getElem?_eq_some_iff.1 hj).1; have := Hl.out; omega) hj⟩
          clear H
          go_wp2
          go_ret
          exact ⟨true, rfl, rfl, Lib.hid ⟨fun _ => HF.out, fun _ => rfl⟩⟩
    · have HN : Hid (¬ RightP ls) := Lib.hid (not_right Hl.out G1.out (.inr (by rw [L0.out]; exact hk)))
      have hk' : n0 < 1 ∨ 255 < n0 := by omega
      clear hk
      go_enter Try.func17, Try.ntmps17
      go_wp2_with fail
      refine (allowed8_yes _ _ (by omega) (by omega)).mono ?_
      rintro e w ⟨rfl, rfl⟩
      go_wp2_with fail
      refine (allowed8_no _ _ (by omega)).mono ?_
      rintro e w ⟨rfl, rfl⟩
      go_wp2
      go_ret
      exact ⟨false, rfl, rfl, Lib.hid ⟨fun h => (by cases h), fun h => absurd h HN.out⟩⟩
  · have HN : Hid (¬ RightP ls) := Lib.hid (by
      rintro ⟨n', k', h1, h2, _, _, h5, _⟩
      have := Hl.out
      omega)
    have hn' : n < 1 ∨ 255 < n := by omega
    clear hn
    go_enter Try.func17, Try.ntmps17
    go_wp2_with fail
    refine (allowed8_no _ _ (by omega)).mono ?_
    rintro e w ⟨rfl, rfl⟩
    go_wp2
    go_ret
    exact ⟨false, rfl, rfl, Lib.hid ⟨fun h => (by cases h), fun h => absurd h HN.out⟩⟩
end Go.Proofs.Ytmfbgogfefgglaa
