/-
  Walk of layer 8's law MatrixInverse. No statement of the seed is proved here.
-/
import Derived.Test.YtmfbgogfefgglaaLaw8c
import Derived.Test.YtmfbgogfefgglaaR81
import Derived.Test.YtmfbgogfefgglaaR82
import Derived.Test.YtmfbgogfefgglaaR83
import Derived.Test.YtmfbgogfefgglaaR7c
namespace Go.Proofs.Ytmfbgogfefgglaa
open Go.RowKit
set_option linter.unusedVariables false

/-- What a rank of any rows is. -/
def RkP (ls : List (List UInt8)) (r : Nat) : Prop := (∀ n k m, 1 ≤ n → n ≤ 255 → 1 ≤ k → k ≤ 255 → ls = ofm n k m → IsRank k n m r) ∧ (¬ RightP ls → r = 0)
theorem RkP.unique {ls : List (List UInt8)} {r s : Nat} (h : RkP ls r) (k : RkP ls s) : r = s := by
  by_cases hP : RightP ls
  · obtain ⟨n, l, h1, h2, h3, h4, e⟩ := hP.form
    exact (h.1 n l _ h1 h2 h3 h4 e).unique (k.1 n l _ h1 h2 h3 h4 e)
  · rw [h.2 hP, k.2 hP]
theorem ofm_same {n k n' k' : Nat} {m m' : Nat → Nat → GB} (hn : 0 < n) (h : ofm n k m = ofm n' k' m') : n = n' ∧ k = k' := by
  have h1 : n = n' := by have := congrArg List.length h; rwa [ofm_length, ofm_length] at this
  subst h1
  refine ⟨rfl, ?_⟩
  have := congrArg (fun l => (l.getD 0 []).length) h
  simp only [List.getD_eq_getElem?_getD, ofm_get hn, Option.getD_some, rm_length] at this
  exact this
theorem RkP.of {n k r : Nat} {m : Nat → Nat → GB} (h1 : 1 ≤ n) (h2 : n ≤ 255) (h3 : 1 ≤ k) (h4 : k ≤ 255) (h : IsRank k n m r) : RkP (ofm n k m) r := by
  refine ⟨fun n' k' m' _ _ _ _ e => ?_, fun hP => absurd (RightP.of h1 h2 h3 h4) hP⟩
  obtain ⟨rfl, rfl⟩ := ofm_same (by omega) e
  exact h.congr (ofm_inj e.symm)
def RkRet (ls : List (List UInt8)) (w : World) (e : Ending) (w' : World) : Prop := ∃ r : Nat, e = .returned (.int .i64 (r : Int)) ∧ Kept [] w w' ∧ Hid (RkP ls r)
theorem rank8_all (p : Nat) (A : Option Addr) (n c : Nat) (ls : List (List UInt8)) (w : World) (hT : TabAt w p) (hr : RdL w A n c ls) : Calls Try.prog 20 #[.pointer (some ⟨p, 0, none⟩), .slice A n c] w (RkRet ls w) := by
  by_cases h : RightP ls
  · obtain ⟨n1, k, h1, h2, h3, h4, e1⟩ := h.form
    obtain rfl : n1 = n := by have := hr.len; rw [e1, ofm_length] at this; exact this
    rw [e1] at hr ⊢
    refine (rank8_any p A n1 k c _ w hT hr h1 h2 h3 h4).mono ?_
    rintro e w1 ⟨r, rfl, hk, hR⟩
    exact ⟨r, rfl, hk, Lib.hid (RkP.of h1 h2 h3 h4 hR.out)⟩
  · refine (rank8_no p A n c ls w hr h).mono ?_
    rintro e w1 ⟨rfl, rfl⟩
    exact ⟨0, rfl, Kept.refl _ _, Lib.hid ⟨fun n k m h1 h2 h3 h4 e => absurd (by rw [e]; exact RightP.of h1 h2 h3 h4) h, fun _ => rfl⟩⟩
theorem rankR8_all (A : Option Addr) (n c : Nat) (ls : List (List UInt8)) (w : World) (hr : RdL w A n c ls) : Calls Try.prog 21 #[.slice A n c] w (RkRet ls w) := by
  by_cases h : RightP ls
  · obtain ⟨n1, k, h1, h2, h3, h4, e1⟩ := h.form
    obtain rfl : n1 = n := by have := hr.len; rw [e1, ofm_length] at this; exact this
    rw [e1] at hr ⊢
    refine (rankR8_any A n1 k c _ w hr h1 h2 h3 h4).mono ?_
    rintro e w1 ⟨r, rfl, hk, hR⟩
    exact ⟨r, rfl, hk, Lib.hid (RkP.of h1 h2 h3 h4 hR.out)⟩
  · refine (rankR8_no A n c ls w hr h).mono ?_
    rintro e w1 ⟨rfl, hk⟩
    exact ⟨0, rfl, hk, Lib.hid ⟨fun n k m h1 h2 h3 h4 e => absurd (by rw [e]; exact RightP.of h1 h2 h3 h4) h, fun _ => rfl⟩⟩

/-- What the inverse of any rows tells. -/
def InvC (n : Nat) (ls : List (List UInt8)) (w : World) (A : Option Addr) (n' c' : Nat) (E : Int) : Prop :=
  (E = 14 ∧ n' = 0 ∧ ¬ (RightP ls ∧ ∃ m, ls = ofm n n m)) ∨ (E = 11 ∧ n' = 0 ∧ ∃ m r, ls = ofm n n m ∧ 1 ≤ n ∧ n ≤ 255 ∧ r < n ∧ IsRank n n m r) ∨
  (E = 0 ∧ n' = n ∧ ∃ m x, ls = ofm n n m ∧ 1 ≤ n ∧ n ≤ 255 ∧ RdL w A n c' (ofm n n x) ∧ ∀ i, i < n → ∀ j, j < n → mm n x m i j = un i j)
def InvAll (n : Nat) (ls : List (List UInt8)) (w : World) (e : Ending) (w' : World) : Prop := ∃ A' n' c' E, e = .returned (.tuple #[.slice A' n' c', .int .i64 E]) ∧ Kept [] w w' ∧ Hid (InvC n ls w' A' n' c' E)
theorem inverse8_all (p : Nat) (A : Option Addr) (n c : Nat) (ls : List (List UInt8)) (w : World) (hT : TabAt w p) (hr : RdL w A n c ls) : Calls Try.prog 19 #[.pointer (some ⟨p, 0, none⟩), .slice A n c] w (InvAll n ls w) := by
  by_cases h : RightP ls
  · obtain ⟨n1, k, h1, h2, h3, h4, e1⟩ := h.form
    obtain rfl : n1 = n := by have := hr.len; rw [e1, ofm_length] at this; exact this
    by_cases hnk : n1 = k
    · subst hnk
      rw [e1] at hr ⊢
      refine (inverse8_any p A n1 c _ w hT hr h1 h2).mono ?_
      rintro e w1 ⟨hk, ⟨rfl, H⟩ | ⟨R, G, off, x, rfl, HM, _, _, HI⟩⟩
      · obtain ⟨r, hr1, hR⟩ := H.out
        exact ⟨none, 0, 0, 11, rfl, hk, Lib.hid (.inr (.inl ⟨rfl, rfl, _, r, rfl, h1, h2, hr1, hR⟩))⟩
      · exact ⟨_, n1, _, 0, rfl, hk, Lib.hid (.inr (.inr ⟨rfl, rfl, _, x, rfl, h1, h2, HM.out.rdl (by unfold maxLen; omega) (by unfold maxLen; omega), HI.out⟩))⟩
    · refine (inverse8_arg p A n1 c ls w hr (.inr ⟨k, _, e1, hnk, by omega⟩)).mono ?_
      rintro e w1 ⟨rfl, rfl⟩
      refine ⟨none, 0, 0, 14, rfl, Kept.refl _ _, Lib.hid (.inl ⟨rfl, rfl, ?_⟩)⟩
      rintro ⟨_, m, e2⟩
      rw [e1] at e2
      exact hnk (ofm_same (by omega) e2).2.symm
  · refine (inverse8_arg p A n c ls w hr (.inl h)).mono ?_
    rintro e w1 ⟨rfl, rfl⟩
    exact ⟨none, 0, 0, 14, rfl, Kept.refl _ _, Lib.hid (.inl ⟨rfl, rfl, fun hh => h hh.1⟩)⟩

set_option maxRecDepth 100000 in
set_option maxHeartbeats 8000000 in
theorem inverseL8_walk (A : Option Addr) (n c : Nat) (la : List (List UInt8)) (w : World) (ha : RdL w A n c la) :
    Calls Try.prog 4 #[.slice A n c] w fun e w' => e = .returned (.bool true) ∧ Kept [] w w' := by
  have HA := Lib.hid ha
  have hm1 := ha.cap
  have hm2 := ha.most
  unfold maxLen at hm2
  clear ha
  go_enter Try.func4, Try.ntmps4
  go_wp2_with fail
  refine (wakes8_any _).mono ?_
  rintro e w1 ⟨rfl, hk1⟩
  have HK1 := Lib.hid hk1
  clear hk1
  go_wp2_with fail
  refine (long8_any _ _ _ la _ (HA.out.kept0 HK1.out)).mono ?_
  rintro e w1 ⟨q1, rfl, rfl, H1⟩
  cases q1 with
  | true =>
    go_wp2
    go_ret
    exact ⟨rfl, HK1.out⟩
  | false =>
  go_wp2_with fail
  refine (make7_any _).mono ?_
  rintro e w2 ⟨p, rfl, hT, hp, hk2⟩
  have HT2 := Lib.hid hT
  have HK2 := Lib.hid (HK1.out.andThen hk2)
  clear hT hp hk2 HK1
  go_wp2_with fail
  refine (copyAll7_any _ _ _ la _ (HA.out.kept0 HK2.out) (by have := (H1.out trivial).1; omega) (fun l hl => by have := (H1.out trivial).2 l hl; omega)).mono ?_
  rintro e w3 ⟨A3, n3, c3, rfl, hx3, hk3⟩
  have HX3 := Lib.hid hx3
  have HT3 := Lib.hid (HT2.out.kept0 hk3)
  have HK3 := Lib.hid (HK2.out.andThen hk3)
  clear hx3 hk3 HK2 HT2 H1
  obtain rfl : n3 = n := by rw [← HX3.out.len, ← HA.out.len]
  go_wp2_with fail
  refine (inverse8_all p _ _ _ la _ HT3.out HX3.out).mono ?_
  rintro e w4 ⟨A4, n4, c4, E, rfl, hk4, HC⟩
  have HX4 := Lib.hid (HX3.out.kept0 hk4)
  have HT4 := Lib.hid (HT3.out.kept0 hk4)
  have HK4 := Lib.hid (HK3.out.andThen hk4)
  clear hk4 HK3 HT3 HX3
  go_wp2_with fail
  refine (sameAll7_any _ _ _ _ _ _ _ _ HX4.out (HA.out.kept0 HK4.out)).mono ?_
  rintro e w5 ⟨rfl, h5⟩
  have hk5 : Kept [] w4 w5 := by obtain ⟨m, rfl⟩ := h5; exact (Kept.refl [] w4).drewN m
  have HS5 := Lib.hid hk5
  have HT5 := Lib.hid (HT4.out.kept0 hk5)
  have HK5 := Lib.hid (HK4.out.andThen hk5)
  clear h5 hk5 HK4 HT4 HX4
  go_wp2_with fail
  refine (rank8_all p _ _ _ la _ HT5.out (HA.out.kept0 HK5.out)).mono ?_
  rintro e w6 ⟨r, rfl, hk6, HR⟩
  have HS6 := Lib.hid (HS5.out.andThen hk6)
  have HK6 := Lib.hid (HK5.out.andThen hk6)
  clear hk6 HK5 HT5 HS5
  go_wp2_with fail
  refine (rankR8_all _ _ _ la _ (HA.out.kept0 HK6.out)).mono ?_
  rintro e w7 ⟨r', rfl, hk7, HR'⟩
  obtain rfl := HR.out.unique HR'.out
  have HS7 := Lib.hid (HS6.out.andThen hk7)
  have HK7 := Lib.hid (HK6.out.andThen hk7)
  clear hk7 HK6 HR' HS6
  go_wp2_with fail
  refine (rightR8_any _ _ _ la _ (HA.out.kept0 HK7.out)).mono ?_
  rintro e w8 ⟨q1, rfl, hw8, H8⟩
  have hk8 : Kept [] w7 w8 := by obtain ⟨m, rfl⟩ := hw8; exact (Kept.refl [] w7).drewN m
  have HS8 := Lib.hid (HS7.out.andThen hk8)
  have HK8 := Lib.hid (HK7.out.andThen hk8)
  clear hw8 hk8 HK7 HS7
  cases q1 with
  | false =>
    have HP : Hid (¬ RightP la) := Lib.hid (fun h => by have := H8.out.2 h; cases this)
    have hE : E = 14 ∧ n4 = 0 := by
      rcases HC.out with ⟨h1, h2, _⟩ | ⟨_, _, m, r0, e1, g1, g2, _⟩ | ⟨_, _, m, x, e1, g1, g2, _⟩
      · exact ⟨h1, h2⟩
      · exact absurd (by rw [e1]; exact RightP.of g1 g2 g1 g2) HP.out
      · exact absurd (by rw [e1]; exact RightP.of g1 g2 g1 g2) HP.out
    obtain ⟨rfl, rfl⟩ := hE
    clear HC HR HP H8
    go_wp2
    go_ret
    exact ⟨rfl, HK8.out⟩
  | true =>
  have P1 := Lib.hid (H8.out.1 rfl)
  clear H8
  obtain ⟨k, a, a1, a2, a3, a4, e0, ba, oa, ba2, oa2, ca2, rfl, hba, ca, d1, d2⟩ := (HA.out.kept0 HK8.out).right P1.out
  unfold maxLen at d2
  by_cases hnk : n3 = k
  · have HN := Lib.hid hnk
    clear hnk
    rcases HC.out with ⟨_, _, h3⟩ | ⟨rfl, rfl, m, r0, e1, g1, g2, g3, g4⟩ | ⟨rfl, rfl, m, x, e1, g1, g2, g3, g4⟩
    · exact absurd ⟨P1.out, a, by rw [e0, HN.out]⟩ h3
    · have hr : r < n3 := by
        have := (HR.out.1 n3 n3 m g1 g2 g1 g2 e1).unique g4
        omega
      have hnk := HN.out.symm
      subst hnk
      clear HC g4 e0 e1 HN
      go_wp2_with fail
      refine (rankR8_all _ _ _ la _ (HA.out.kept0 HK8.out)).mono ?_
      rintro e w9 ⟨r', rfl, hk9, HR'⟩
      obtain rfl := HR.out.unique HR'.out
      have HK9 := Lib.hid (HK8.out.andThen hk9)
      clear hk9 HK8 HR'
      go_wp2
      go_ret
      exact ⟨rfl, HK9.out⟩
    · have hr : ¬ r < n4 := by
        have := (HR.out.1 n4 n4 m g1 g2 g1 g2 e1).unique (indep_of_inv g4).rank
        omega
      have HX8 := Lib.hid (g3.kept0 HS8.out)
      have HM : Hid (RdL w (some ⟨ba, oa, none⟩) n4 c (ofm n4 n4 m)) := Lib.hid (by rw [← e1]; exact HA.out)
      have HI := Lib.hid g4
      have hnk := HN.out.symm
      subst hnk
      clear HC g3 g4 e0 e1 HN HS8
      go_wp2_with fail
      refine (rankR8_all _ _ _ la _ (HA.out.kept0 HK8.out)).mono ?_
      rintro e w9 ⟨r', rfl, hk9, HR'⟩
      obtain rfl := HR.out.unique HR'.out
      have HK9 := Lib.hid (HK8.out.andThen hk9)
      have HX9 := Lib.hid (HX8.out.kept0 hk9)
      clear hk9 HK8 HR' HX8 ca hba
      go_wp2_with fail
      refine (mulR8_any _ _ c _ c4 _ _ m x _ (HM.out.kept0 HK9.out) HX9.out g1 g2 g1 g2 g1 g2).mono ?_
      rintro e wa ⟨Aa, na, ca', rfl, hma, hka⟩
      rw [ofm_congr (m' := un) (fun i hi j hj => inv_right HI.out i hi j hj)] at hma
      have HMa := Lib.hid hma
      have HKa := Lib.hid (HK9.out.andThen hka)
      have HXa := Lib.hid (HX9.out.kept0 hka)
      clear hma hka HK9 HX9
      go_wp2_with fail
      refine (mulR8_any _ _ c4 _ c _ _ x m _ HXa.out (HM.out.kept0 HKa.out) g1 g2 g1 g2 g1 g2).mono ?_
      rintro e wb ⟨Ab, nb, cb', rfl, hmb, hkb⟩
      rw [ofm_congr (m' := un) (fun i hi j hj => HI.out i hi j hj)] at hmb
      have HMb := Lib.hid hmb
      have HMab := Lib.hid (HMa.out.kept0 hkb)
      have HKb := Lib.hid (HKa.out.andThen hkb)
      clear hmb hkb HKa HXa HMa
      go_wp2_with fail
      refine (unitR8_any _ _ _ rfl g1 g2).mono ?_
      rintro e wc ⟨Ac, nc, cc', rfl, hmc, hkc⟩
      have HU := Lib.hid hmc
      have HMac := Lib.hid (HMab.out.kept0 hkc)
      have HMbc := Lib.hid (HMb.out.kept0 hkc)
      have HKc := Lib.hid (HKb.out.andThen hkc)
      clear hmc hkc HKb HMab HMb
      go_wp2_with fail
      refine (sameAll7_any _ _ _ _ _ _ _ _ HMac.out HU.out).mono ?_
      rintro e wd ⟨rfl, hd⟩
      have hkd : Kept [] wc wd := by obtain ⟨m, rfl⟩ := hd; exact (Kept.refl [] wc).drewN m
      have HUd := Lib.hid (HU.out.kept0 hkd)
      have HMbd := Lib.hid (HMbc.out.kept0 hkd)
      have HKd := Lib.hid (HKc.out.andThen hkd)
      clear hd hkd HKc HU HMac HMbc
      go_wp2_with fail
      refine (sameAll7_any _ _ _ _ _ _ _ _ HMbd.out HUd.out).mono ?_
      rintro e we ⟨rfl, he⟩
      have HKe : Hid (Kept [] w we) := Lib.hid (by obtain ⟨m, rfl⟩ := he; exact HKd.out.drewN m)
      clear he HKd HUd HMbd
      go_wp2
      go_ret
      exact ⟨rfl, HKe.out⟩
  · have hE : E = 14 ∧ n4 = 0 := by
      rcases HC.out with ⟨h1, h2, _⟩ | ⟨_, _, m, r0, e1, g1, g2, _⟩ | ⟨_, _, m, x, e1, g1, g2, _⟩
      · exact ⟨h1, h2⟩
      · exact absurd (ofm_same (by omega) (e0.symm.trans e1)).2.symm hnk
      · exact absurd (ofm_same (by omega) (e0.symm.trans e1)).2.symm hnk
    obtain ⟨rfl, rfl⟩ := hE
    have hne : (n3 : Int) ≠ (k : Int) := by omega
    clear HC HR P1 e0
    go_wp2
    go_ret
    exact ⟨rfl, HK8.out⟩
end Go.Proofs.Ytmfbgogfefgglaa
