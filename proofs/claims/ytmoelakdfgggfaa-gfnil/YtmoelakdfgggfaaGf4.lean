/-
  Contracts of layer 7 (gf): sums of texts. No statement of the seed is proved here.
-/
import Derived.Test.YtmoelakdfgggfaaGf3
import Derived.Test.YtmoelakdfgggfaaRdL
namespace Go.Proofs.Ytmoelakdfgggfaa
open Go.RowKit
set_option linter.unusedVariables false

theorem sum7_nil (A : Option Addr) (n c : Nat) (A' : Option Addr) (n' c' : Nat) (w : World) : Calls Try.prog 20 #[.pointer none, .slice A n c, .slice A' n' c'] w fun e w' => e = .returned (.tuple #[.slice none 0 0, .int .i64 15]) ∧ w' = w := by
  go_enter Try.func20, Try.ntmps20
  go_wp2
  go_ret2
  exact ⟨rfl, rfl⟩

set_option maxHeartbeats 1000000 in
theorem oneLen_any (A : Option Addr) (n c : Nat) (ls : List (List UInt8)) (w : World) (hr : RdL w A n c ls) : Calls Try.prog 26 #[.slice A n c] w fun e w' => e = .returned (.bool (one1 ls)) ∧ w' = w := by
  have HR := Lib.hid hr
  have hm := hr.cap
  have hm2 := hr.most
  unfold maxLen at hm2
  have Hl := Lib.hid hr.len
  have HN := Lib.hid (fun (k : Nat) (l : List UInt8) (h : ls[k]? = some l) => one1_no (ls := ls) h)
  have HY := Lib.hid (one1_yes (ls := ls))
  obtain ⟨N, hN⟩ : ∃ N, N = (ls.getD 0 []).length := ⟨_, rfl⟩
  obtain ⟨q, hq⟩ : ∃ q, q = one1 ls := ⟨_, rfl⟩
  rw [← hq, ← hN] at HY
  simp only [← hq, ← hN] at HN
  rw [← hq]
  have H0 : Hid (∀ l, ls[0]? = some l → l.length = N) := Lib.hid (fun l h => by rw [hN, List.getD_eq_getElem?_getD, h]; rfl)
  clear hr hN hq
  go_enter Try.func26, Try.ntmps26
  go_wp2
  go_loopw [7] (fun i wr => ∃ k : Nat, k ≤ n ∧ i = .int .i64 (k : Int) ∧ wr = w ∧ Hid (∀ j l, j < k → ls[j]? = some l → l.length = N)) (fun i _ => n - (intOf i).toNat)
  case atStart => exact ⟨0, by omega, rfl, rfl, Lib.hid (fun j l h => by omega)⟩
  case round =>
    obtain ⟨k, hk, rfl, rfl, H⟩ := hrel
    by_cases hlt : k < n
    · obtain ⟨b, off, Ak, nk, ck, l, rfl, hb, c1, g1, r1⟩ := HR.out.at_ hlt
      obtain ⟨b', off', A0, n0, c0, l0, e0, _, c2, g2, r2⟩ := HR.out.at_ (k := 0) (by omega)
      injection e0 with e0
      injection e0 with e1 e2
      subst e1 e2
      rw [Nat.add_zero] at c2
      have hn0 : n0 = N := by rw [← r2.len]; exact H0.out l0 g2
      have hnk := r1.len
      have b1 := r1.cap
      have b2 := r1.most
      unfold maxLen at b2
      have b3 := r2.cap
      have b4 := r2.most
      unfold maxLen at b4
      by_cases he : nk = N
      · have hE : ((nk : Int) != (n0 : Int)) = false := by rw [he, hn0]; simp
        have H' : Hid (∀ j l, j < k + 1 → ls[j]? = some l → l.length = N) := Lib.hid (fun j l' hj hl' => by
          by_cases h : j < k
          · exact H.out j l' h hl'
          · obtain rfl : j = k := by omega
            rw [g1] at hl'; injection hl' with hl'; subst hl'; rw [hnk]; exact he)
        clear H r1 r2 g1 g2 hnk he hn0
        go_wp2
        go_roundw
        case rel => exact ⟨k + 1, by omega, by go_num, trivial, H'⟩
        case measure => simp [intOf]; omega
      · have hE : ((nk : Int) != (n0 : Int)) = true := by rw [hn0]; simp; omega
        have HF := Lib.hid (HN.out k l g1 (by rw [hnk]; exact he))
        clear H r1 r2 g1 g2 hnk he hn0
        go_wp2
        go_ret
        exact ⟨ret_bool HF.out.symm, rfl⟩
    · obtain rfl : n = k := by omega
      have HF := Lib.hid (HY.out (fun j l hj hl => H.out j l (by rw [← Hl.out]; exact hj) hl))
      clear H
      go_wp2
      go_ret
      exact ⟨ret_bool HF.out.symm, rfl⟩
end Go.Proofs.Ytmoelakdfgggfaa
