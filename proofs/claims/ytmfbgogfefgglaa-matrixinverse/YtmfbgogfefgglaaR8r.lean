/-
  Contract of the document's own answer for layer 8: is it a matrix? No statement of the seed is proved here.
-/
import Derived.Test.YtmfbgogfefgglaaM81
import Derived.Outline
import Derived.Deep.QuietTactic
namespace Go.Proofs.Ytmfbgogfefgglaa
open Go.RowKit
set_option linter.unusedVariables false

set_option maxHeartbeats 1000000 in
theorem rightR8_any (A : Option Addr) (n c : Nat) (ls : List (List UInt8)) (w : World) (hr : RdL w A n c ls) : Calls Try.prog 18 #[.slice A n c] w (RightRetD ls w) := by
  have HR := Lib.hid hr
  have Hl := Lib.hid hr.len
  have hm := hr.cap
  have hm2 := hr.most
  unfold maxLen at hm2
  clear hr
  by_cases hn : 1 ≤ n ∧ n ≤ 255
  · obtain ⟨hn1, hn2⟩ := hn
    obtain ⟨b, off, A0, n0, c0, l0, rfl, hb, c1, g1, r1⟩ := HR.out.at_ (k := 0) (by omega)
    have hl0 := r1.len
    have b1 := r1.cap
    have b2 := r1.most
    unfold maxLen at b2
    rw [Nat.add_zero] at c1
    have G1 := Lib.hid g1
    have L0 := Lib.hid hl0
    have C1 := Lib.hid c1
    clear r1 g1 hl0
    by_cases hk : 1 ≤ n0 ∧ n0 ≤ 255
    · obtain ⟨hk1, hk2⟩ := hk
      go_enter Try.func18, Try.ntmps18
      go_wp2
      go_loopw [3] (fun i wr => ∃ k : Nat, k ≤ n ∧ i = .int .i64 (k : Int) ∧ Hid (∃ m, wr = w.drewN m) ∧ Hid (∀ j l, j < k → ls[j]? = some l → l.length = n0)) (fun i _ => n - (intOf i).toNat)
      case atStart => exact ⟨0, by omega, rfl, Lib.hid ⟨0, rfl⟩, Lib.hid (fun j l h => by omega)⟩
      case round =>
        obtain ⟨k, hk, rfl, HM, H⟩ := hrel
        have hKr : Kept [] w wr := by obtain ⟨m, rfl⟩ := HM.out; exact (Kept.refl [] w).drewN m
        by_cases hlt : k < n
        · obtain ⟨b', off', Ak, nk, ck, l, e1, hb', c2, g2, r2⟩ := (HR.out.kept0 hKr).at_ hlt
          injection e1 with e1; injection e1 with e1 e2; subst e1 e2
          have c1' : wr.cell? ⟨b, off, none⟩ = some (.slice A0 n0 c0) := (hKr.cell (p := ⟨b, off, none⟩) hb (by simp)).trans C1.out
          have hnk := r2.len
          have b3 := r2.cap
          have b4 := r2.most
          unfold maxLen at b4
          by_cases he : nk = n0
          · have H' : Hid (∀ j l, j < k + 1 → ls[j]? = some l → l.length = n0) := Lib.hid (fun j l' hj hl' => by
              by_cases h : j < k
              · exact H.out j l' h hl'
              · obtain rfl : j = k := by omega
                rw [g2] at hl'; injection hl' with hl'; subst hl'; rw [hnk]; exact he)
            clear H r2 g2 hnk hKr c1
            subst he
            go_wp2
            go_quiet (fail)
            go_wp2
            go_roundw
            case rel => exact ⟨k + 1, by omega, by go_num, Lib.hid (by obtain ⟨m, rfl⟩ := HM.out; exact ⟨m + nq, by simp⟩), H'⟩
            case measure => simp [intOf]; omega
          · have HN : Hid (¬ RightP ls) := Lib.hid (by
              rintro ⟨n', k', _, _, _, _, _, h6⟩
              have h7 := h6 l (List.mem_of_getElem? g2)
              have h8 := h6 l0 (List.mem_of_getElem? G1.out)
              have := L0.out
              omega)
            have he1 : (nk : Int) ≠ (n0 : Int) := by omega
            clear H r2 g2 hnk hKr c1
            go_wp2
            go_quiet (fail)
            go_wp2
            go_ret
            exact ⟨false, rfl, (by obtain ⟨m, rfl⟩ := HM.out; exact ⟨m + nq, by simp⟩), Lib.hid ⟨fun h => (by cases h), fun h => absurd h HN.out⟩⟩
        · obtain rfl : n = k := by omega
          have HF : Hid (RightP ls) := Lib.hid ⟨n, n0, hn1, hn2, hk1, hk2, Hl.out, fun l hl => by
            obtain ⟨j, hj⟩ := List.mem_iff_getElem?.1 hl
            exact H.out j l (by have := (List.getElem?_eq_some_iff.1 hj).1; have := Hl.out; omega) hj⟩
          clear H hKr
          go_wp2
          go_ret
          exact ⟨true, rfl, HM.out, Lib.hid ⟨fun _ => HF.out, fun _ => rfl⟩⟩
    · have HN : Hid (¬ RightP ls) := Lib.hid (not_right Hl.out G1.out (.inr (by rw [L0.out]; exact hk)))
      have hk' : n0 < 1 ∨ 255 < n0 := by omega
      clear hk
      rcases hk' with h | h
      all_goals
        go_enter Try.func18, Try.ntmps18
        go_wp2
        go_ret
        exact ⟨false, rfl, ⟨0, rfl⟩, Lib.hid ⟨fun h => (by cases h), fun h => absurd h HN.out⟩⟩
  · have HN : Hid (¬ RightP ls) := Lib.hid (by
      rintro ⟨n', k', h1, h2, _, _, h5, _⟩
      have := Hl.out
      omega)
    have hn' : n < 1 ∨ 255 < n := by omega
    clear hn
    rcases hn' with h | h
    all_goals
      go_enter Try.func18, Try.ntmps18
      go_wp2
      go_ret
      exact ⟨false, rfl, ⟨0, rfl⟩, Lib.hid ⟨fun h => (by cases h), fun h => absurd h HN.out⟩⟩
end Go.Proofs.Ytmfbgogfefgglaa
