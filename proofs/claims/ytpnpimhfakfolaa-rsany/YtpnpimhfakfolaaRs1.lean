/-
  Contracts of layer 9 (rs): a code in memory, its small questions, its rows. No statement of the seed is proved here.
-/
import Derived.Test.YtpnpimhfakfolaaRsM
import Derived.Test.YtpnpimhfakfolaaGf5
import Derived.Test.YtpnpimhfakfolaaPa
namespace Go.Proofs.Ytpnpimhfakfolaa
open Go.RowKit
set_option linter.unusedVariables false

/-- A code of k and n lies at q: its rows, its tables. -/
structure CodeAt (w : World) (q n k p : Nat) (A : Option Addr) (c : Nat) : Prop where
  k1 : 1 ≤ k
  kn : k ≤ n
  n255 : n ≤ 255
  rows : w.cell? ⟨q, 0, none⟩ = some (.slice A n c)
  cnt : w.cell? ⟨q, 1, none⟩ = some (.int .i64 (k : Int))
  tab : w.cell? ⟨q, 2, none⟩ = some (.pointer (some ⟨p, 0, none⟩))
  tabs : TabAt w p
  mat : RdL w A n c (ofm n k (rsr k))
theorem CodeAt.lt {w : World} {q n k p : Nat} {A : Option Addr} {c : Nat} (h : CodeAt w q n k p A c) : q < w.heap.size := World.block_lt_of_cell? w _ h.rows
theorem CodeAt.keptNew {w w' : World} {q n k p : Nat} {A : Option Addr} {c : Nat} {S : List Nat} (h : CodeAt w q n k p A c) (hk : Kept S w w') (hS : ∀ i, i ∈ S → w.heap.size ≤ i) : CodeAt w' q n k p A c := by
  have hq := h.lt
  have hn : q ∉ S := fun hm => by have := hS q hm; omega
  have hp : p ∉ S := fun hm => by have := hS p hm; have := h.tabs.lt; omega
  exact ⟨h.k1, h.kn, h.n255, (hk.cell (p := ⟨q, 0, none⟩) hq hn).trans h.rows, (hk.cell (p := ⟨q, 1, none⟩) hq hn).trans h.cnt, (hk.cell (p := ⟨q, 2, none⟩) hq hn).trans h.tab, h.tabs.kept hk hp, h.mat.keptNew hk hS⟩
theorem CodeAt.kept0 {w w' : World} {q n k p : Nat} {A : Option Addr} {c : Nat} (h : CodeAt w q n k p A c) (hk : Kept [] w w') : CodeAt w' q n k p A c := h.keptNew hk (by simp)

theorem has9_yes (A : Option Addr) (n c i : Nat) (z : Int) (w : World) (hz : z = (i : Int)) (hi : i < n) : Calls Try.prog 31 #[.slice A n c, .int .i64 z] w fun e w' => e = .returned (.bool true) ∧ w' = w := by
  subst hz
  go_enter Try.func31, Try.ntmps31
  go_wp2
  go_ret
  exact ⟨rfl, rfl⟩
theorem has9_no (A : Option Addr) (n c : Nat) (z : Int) (w : World) (h : z < 0 ∨ (0 ≤ z ∧ (n : Int) ≤ z)) : Calls Try.prog 31 #[.slice A n c, .int .i64 z] w fun e w' => e = .returned (.bool false) ∧ w' = w := by
  rcases h with h | ⟨h, h2⟩
  all_goals
    go_enter Try.func31, Try.ntmps31
    go_wp2
    go_ret
    first | exact ⟨rfl, rfl⟩ | exact ⟨ret_bool (decide_eq_false (by omega)), rfl⟩

set_option maxHeartbeats 1000000 in
theorem oneLen9_any (A : Option Addr) (n c : Nat) (ls : List (List UInt8)) (w : World) (hr : RdL w A n c ls) : Calls Try.prog 42 #[.slice A n c] w fun e w' => e = .returned (.bool (one1 ls)) ∧ w' = w := by
  have HR := Lib.hid hr
  have hm := hr.cap
  have hm2 := hr.most
  unfold maxLen at hm2
  have Hl := Lib.hid hr.len
  have HN := Lib.hid (fun (k : Nat) (l : List UInt8) (h : ls[k]? = some l) => one1_no (ls := ls) h)
  have HY := Lib.hid (one1_yes (ls := ls))
  obtain ⟨N, hN⟩ : ∃ N, N = (ls.getD 0 []).length := ⟨_, rfl⟩
  obtain ⟨q, hq⟩ : ∃ q, q = one1 ls := ⟨_, rfl⟩
  rw [← hq, ← hN] at HY
  simp only [← hq, ← hN] at HN
  rw [← hq]
  have H0 : Hid (∀ l, ls[0]? = some l → l.length = N) := Lib.hid (fun l h => by rw [hN, List.getD_eq_getElem?_getD, h]; rfl)
  clear hr hN hq
  go_enter Try.func42, Try.ntmps42
  go_wp2
  go_loopw [7] (fun i wr => ∃ k : Nat, k ≤ n ∧ i = .int .i64 (k : Int) ∧ wr = w ∧ Hid (∀ j l, j < k → ls[j]? = some l → l.length = N)) (fun i _ => n - (intOf i).toNat)
  case atStart => exact ⟨0, by omega, rfl, rfl, Lib.hid (fun j l h => by omega)⟩
  case round =>
    obtain ⟨k, hk, rfl, rfl, H⟩ := hrel
    by_cases hlt : k < n
    · obtain ⟨b, off, Ak, nk, ck, l, rfl, hb, c1, g1, r1⟩ := HR.out.at_ hlt
      obtain ⟨b', off', A0, n0, c0, l0, e0, _, c2, g2, r2⟩ := HR.out.at_ (k := 0) (by omega)
      injection e0 with e0
      injection e0 with e1 e2
      subst e1 e2
      rw [Nat.add_zero] at c2
      have hn0 : n0 = N := by rw [← r2.len]; exact H0.out l0 g2
      have hnk := r1.len
      have b1 := r1.cap
      have b2 := r1.most
      unfold maxLen at b2
      have b3 := r2.cap
      have b4 := r2.most
      unfold maxLen at b4
      by_cases he : nk = N
      · have hE : ((nk : Int) != (n0 : Int)) = false := by rw [he, hn0]; simp
        have H' : Hid (∀ j l, j < k + 1 → ls[j]? = some l → l.length = N) := Lib.hid (fun j l' hj hl' => by
          by_cases h : j < k
          · exact H.out j l' h hl'
          · obtain rfl : j = k := by omega
            rw [g1] at hl'; injection hl' with hl'; subst hl'; rw [hnk]; exact he)
        clear H r1 r2 g1 g2 hnk he hn0
        go_wp2
        go_roundw
        case rel => exact ⟨k + 1, by omega, by go_num, trivial, H'⟩
        case measure => simp [intOf]; omega
      · have hE : ((nk : Int) != (n0 : Int)) = true := by rw [hn0]; simp; omega
        have HF := Lib.hid (HN.out k l g1 (by rw [hnk]; exact he))
        clear H r1 r2 g1 g2 hnk he hn0
        go_wp2
        go_ret
        exact ⟨ret_bool HF.out.symm, rfl⟩
    · obtain rfl : n = k := by omega
      have HF := Lib.hid (HY.out (fun j l hj hl => H.out j l (by rw [← Hl.out]; exact hj) hl))
      clear H
      go_wp2
      go_ret
      exact ⟨ret_bool HF.out.symm, rfl⟩
/-- Are these slices? -/
def tkn (k : Nat) (ls : List (List UInt8)) : Bool := decide (ls.length = k) && one1 ls
theorem takes9_any (q n k p : Nat) (A : Option Addr) (c : Nat) (A' : Option Addr) (n' c' : Nat) (ls : List (List UInt8)) (w : World) (hc : CodeAt w q n k p A c) (hl : RdL w A' n' c' ls) :
    Calls Try.prog 27 #[.pointer (some ⟨q, 0, none⟩), .slice A' n' c'] w fun e w' => e = .returned (.bool (tkn k ls)) ∧ w' = w := by
  have HL := Lib.hid hl
  have hll := hl.len
  have c1 := hc.cnt
  by_cases h : n' = k
  · have HT : Hid (tkn k ls = one1 ls) := Lib.hid (by unfold tkn; rw [decide_eq_true (by omega : ls.length = k), Bool.true_and])
    rw [HT.out]
    have HC := Lib.hid (oneLen9_any _ _ _ ls _ hl)
    generalize one1 ls = b at *
    subst h
    clear hc hl hll HT HL
    go_enter Try.func27, Try.ntmps27
    go_wp2_with fail
    refine HC.out.mono ?_
    rintro e w' ⟨rfl, rfl⟩
    go_wp2
    go_ret
    exact ⟨rfl, rfl⟩
  · have HT : Hid (tkn k ls = false) := Lib.hid (by unfold tkn; rw [decide_eq_false (by omega : ¬ ls.length = k), Bool.false_and])
    rw [HT.out]
    have hE : ((n' : Int) == (k : Int)) = false := by simp; omega
    clear hc hl hll
    go_enter Try.func27, Try.ntmps27
    go_wp2
    go_ret
    exact ⟨rfl, rfl⟩

theorem row9_nil (z : Int) (w : World) : Calls Try.prog 18 #[.pointer none, .int .i64 z] w fun e w' => e = .returned (.slice none 0 0) ∧ w' = w := by
  go_enter Try.func18, Try.ntmps18
  go_wp2
  go_ret
  exact ⟨rfl, rfl⟩
theorem row9_no (q n k p : Nat) (A : Option Addr) (c : Nat) (z : Int) (w : World) (hc : CodeAt w q n k p A c) (h : z < 0 ∨ (0 ≤ z ∧ (n : Int) ≤ z)) : Calls Try.prog 18 #[.pointer (some ⟨q, 0, none⟩), .int .i64 z] w fun e w' => e = .returned (.slice none 0 0) ∧ w' = w := by
  have c1 := hc.rows
  clear hc
  go_enter Try.func18, Try.ntmps18
  go_wp2_with fail
  refine (has9_no _ _ _ _ _ h).mono ?_
  rintro e w' ⟨rfl, rfl⟩
  go_wp2
  go_ret
  exact ⟨rfl, rfl⟩
theorem row9_any (q n k p : Nat) (A : Option Addr) (c : Nat) (i : Nat) (z : Int) (w : World) (hc : CodeAt w q n k p A c) (hz : z = (i : Int)) (hi : i < n) : Calls Try.prog 18 #[.pointer (some ⟨q, 0, none⟩), .int .i64 z] w (CloneRet (rm k fun j => (rsr k i j).v) w) := by
  subst hz
  have c1 := hc.rows
  obtain ⟨b, off, Aj, nj, cj, l, rfl, hb, c2, g2, hr⟩ := hc.mat.at_ hi
  rw [ofm_get hi] at g2
  obtain rfl := Option.some.inj g2
  have hcap := hc.mat.cap
  have hmost := hc.mat.most
  have hnj : nj = k := by rw [← hr.len, rm_length]
  subst hnj
  have hkb := hc.kn
  have hnb := hc.n255
  unfold maxLen at hmost
  have HR := Lib.hid hr
  clear hc hr g2
  go_enter Try.func18, Try.ntmps18
  go_wp2_with fail
  refine (has9_yes _ _ _ i _ _ rfl hi).mono ?_
  rintro e w' ⟨rfl, rfl⟩
  go_wp2_with fail
  refine (clone_any _ _ _ _ _ HR.out (by omega)).mono ?_
  rintro e w2 ⟨v, rfl, h1, h2, h3⟩
  go_wp2
  go_ret
  exact ⟨v, rfl, h1, h2, h3⟩
end Go.Proofs.Ytpnpimhfakfolaa
