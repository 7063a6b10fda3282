/-
  Walk of layer 8's law MatrixGroups. No statement of the seed is proved here.
-/
import Derived.Test.YtmfbgogfefgglaaLaw8a
import Derived.Test.YtmfbgogfefgglaaM89
import Derived.Test.YtmfbgogfefgglaaM8u
import Derived.Test.YtmfbgogfefgglaaR8r
namespace Go.Proofs.Ytmfbgogfefgglaa
open Go.RowKit
set_option linter.unusedVariables false

/-- Rows that are a matrix: how many, and the first one. -/
theorem RdL.right {w : World} {A : Option Addr} {n c : Nat} {ls : List (List UInt8)} (h : RdL w A n c ls) (hP : RightP ls) : ∃ k a, 1 ≤ n ∧ n ≤ 255 ∧ 1 ≤ k ∧ k ≤ 255 ∧ ls = ofm n k a ∧ ∃ b o bo of cc, A = some ⟨b, o, none⟩ ∧ b < w.heap.size ∧ w.cell? ⟨b, o, none⟩ = some (.slice (some ⟨bo, of, none⟩) k cc) ∧ k ≤ cc ∧ cc ≤ maxLen := by
  obtain ⟨n1, k, h1, h2, h3, h4, e⟩ := hP.form
  have e1 : n1 = n := by have := h.len; rw [e, ofm_length] at this; exact this
  subst e1
  refine ⟨k, _, h1, h2, h3, h4, e, ?_⟩
  rw [e] at h
  obtain ⟨b, o, bo, of, cc, eA, hb, c1, _, d1, d2, _⟩ := h.mrow (by omega) (i := 0) (by omega)
  exact ⟨b, o, bo, of, cc, eA, hb, by rw [Nat.add_zero] at c1; exact c1, d1, d2⟩

set_option maxRecDepth 100000 in
set_option maxHeartbeats 8000000 in
theorem groups8_walk (A : Option Addr) (n c : Nat) (la : List (List UInt8)) (A' : Option Addr) (n' c' : Nat) (lb : List (List UInt8)) (A'' : Option Addr) (n'' c'' : Nat) (lc : List (List UInt8)) (w : World) (ha : RdL w A n c la) (hb : RdL w A' n' c' lb) (hc : RdL w A'' n'' c'' lc) :
    Calls Try.prog 8 #[.slice A n c, .slice A' n' c', .slice A'' n'' c''] w fun e w' => e = .returned (.bool true) ∧ Kept [] w w' := by
  have HA := Lib.hid ha
  have HB := Lib.hid hb
  have HC := Lib.hid hc
  have hm1 := ha.cap
  have hm2 := ha.most
  have hm3 := hb.cap
  have hm4 := hb.most
  have hm5 := hc.cap
  have hm6 := hc.most
  unfold maxLen at hm2 hm4 hm6
  clear ha hb hc
  go_enter Try.func8, Try.ntmps8
  go_wp2_with fail
  refine (wakes8_any _).mono ?_
  rintro e w1 ⟨rfl, hk1⟩
  have HK1 := Lib.hid hk1
  clear hk1
  go_wp2_with fail
  refine (long8_any _ _ _ la _ (HA.out.kept0 HK1.out)).mono ?_
  rintro e w1 ⟨q1, rfl, rfl, H1⟩
  cases q1 with
  | true =>
    go_wp2
    go_ret
    exact ⟨rfl, HK1.out⟩
  | false =>
  clear H1
  go_wp2_with fail
  refine (long8_any _ _ _ lb _ (HB.out.kept0 HK1.out)).mono ?_
  rintro e w1 ⟨q1, rfl, rfl, H1⟩
  cases q1 with
  | true =>
    go_wp2
    go_ret
    exact ⟨rfl, HK1.out⟩
  | false =>
  clear H1
  go_wp2_with fail
  refine (long8_any _ _ _ lc _ (HC.out.kept0 HK1.out)).mono ?_
  rintro e w1 ⟨q1, rfl, rfl, H1⟩
  cases q1 with
  | true =>
    go_wp2
    go_ret
    exact ⟨rfl, HK1.out⟩
  | false =>
  clear H1
  go_wp2_with fail
  refine (rightR8_any _ _ _ la _ (HA.out.kept0 HK1.out)).mono ?_
  rintro e w2 ⟨q1, rfl, hw2, H1⟩
  have HK2 : Hid (Kept [] w w2) := Lib.hid (by obtain ⟨m, rfl⟩ := hw2; exact HK1.out.drewN m)
  clear hw2 HK1
  cases q1 with
  | false =>
    go_wp2
    go_ret
    exact ⟨rfl, HK2.out⟩
  | true =>
  have P1 := Lib.hid (H1.out.1 rfl)
  clear H1
  go_wp2_with fail
  refine (rightR8_any _ _ _ lb _ (HB.out.kept0 HK2.out)).mono ?_
  rintro e w3 ⟨q1, rfl, hw3, H2⟩
  have HK3 : Hid (Kept [] w w3) := Lib.hid (by obtain ⟨m, rfl⟩ := hw3; exact HK2.out.drewN m)
  clear hw3 HK2
  cases q1 with
  | false =>
    go_wp2
    go_ret
    exact ⟨rfl, HK3.out⟩
  | true =>
  have P2 := Lib.hid (H2.out.1 rfl)
  clear H2
  go_wp2_with fail
  refine (rightR8_any _ _ _ lc _ (HC.out.kept0 HK3.out)).mono ?_
  rintro e w4 ⟨q1, rfl, hw4, H3⟩
  have HK4 : Hid (Kept [] w w4) := Lib.hid (by obtain ⟨m, rfl⟩ := hw4; exact HK3.out.drewN m)
  clear hw4 HK3
  cases q1 with
  | false =>
    go_wp2
    go_ret
    exact ⟨rfl, HK4.out⟩
  | true =>
  have P3 := Lib.hid (H3.out.1 rfl)
  clear H3
  obtain ⟨k, a, a1, a2, a3, a4, rfl, ba, oa, ba2, oa2, ca2, rfl, hba, ca, d1, d2⟩ := (HA.out.kept0 HK4.out).right P1.out
  obtain ⟨l, b, b1, b2, b3, b4, rfl, bb, ob, bb2, ob2, cb2, rfl, hbb, cb, d3, d4⟩ := (HB.out.kept0 HK4.out).right P2.out
  obtain ⟨s, c0, c1, c2, c3, c4, rfl, bc, oc, bc2, oc2, cc2, rfl, hbc, cc, d5, d6⟩ := (HC.out.kept0 HK4.out).right P3.out
  unfold maxLen at d2 d4 d6
  clear P1 P2 P3
  by_cases hkn : k = n'
  · subst hkn
    by_cases hln : l = n''
    · subst hln
      go_wp2_with fail
      refine (make7_any _).mono ?_
      rintro e w5 ⟨p, rfl, hT, hp, hk5⟩
      have HT5 := Lib.hid hT
      have HK5 := Lib.hid (HK4.out.andThen hk5)
      have ca5 := (hk5.cell (p := ⟨ba, oa, none⟩) hba (by simp)).trans ca
      have hba5 : ba < w5.heap.size := by have := hk5.size; omega
      clear hT hp hk5 HK4 ca cb cc hba hbb hbc
      go_wp2_with fail
      refine (mul8_any p _ n c _ c' k l a b _ HT5.out (HA.out.kept0 HK5.out) (HB.out.kept0 HK5.out) a1 a2 a3 a4 b3 b4).mono ?_
      rintro e w6 ⟨R1, G1, off1, rfl, hM1, _, _, hk6⟩
      have HM1 := Lib.hid (hM1.rdl (by unfold maxLen; omega) (by unfold maxLen; omega))
      have HK6 := Lib.hid (HK5.out.andThen hk6)
      have HT6 := Lib.hid (HT5.out.kept0 hk6)
      have ca6 := (hk6.cell (p := ⟨ba, oa, none⟩) hba5 (by simp)).trans ca5
      have hba6 : ba < w6.heap.size := by have := hk6.size; omega
      clear hM1 hk6 HK5 HT5 ca5 hba5
      go_wp2_with fail
      refine (mul8_any p _ k c' _ c'' l s b c0 _ HT6.out (HB.out.kept0 HK6.out) (HC.out.kept0 HK6.out) b1 b2 b3 b4 c3 c4).mono ?_
      rintro e w7 ⟨R2, G2, off2, rfl, hM2, _, _, hk7⟩
      have HM17 := Lib.hid (HM1.out.kept0 hk7)
      have HM2 := Lib.hid (hM2.rdl (by unfold maxLen; omega) (by unfold maxLen; omega))
      have HK7 := Lib.hid (HK6.out.andThen hk7)
      have HT7 := Lib.hid (HT6.out.kept0 hk7)
      have ca7 := (hk7.cell (p := ⟨ba, oa, none⟩) hba6 (by simp)).trans ca6
      have hba7 : ba < w7.heap.size := by have := hk7.size; omega
      clear hM2 hk7 HK6 HT6 HM1 ca6 hba6
      go_wp2_with fail
      refine (mul8_any p _ n n _ c'' l s _ c0 _ HT7.out HM17.out (HC.out.kept0 HK7.out) a1 a2 b3 b4 c3 c4).mono ?_
      rintro e w8 ⟨R3, G3, off3, rfl, hM3, _, _, hk8⟩
      have HM28 := Lib.hid (HM2.out.kept0 hk8)
      have HM3 := Lib.hid (hM3.rdl (by unfold maxLen; omega) (by unfold maxLen; omega))
      have HK8 := Lib.hid (HK7.out.andThen hk8)
      have HT8 := Lib.hid (HT7.out.kept0 hk8)
      have ca8 := (hk8.cell (p := ⟨ba, oa, none⟩) hba7 (by simp)).trans ca7
      have hba8 : ba < w8.heap.size := by have := hk8.size; omega
      clear hM3 hk8 HK7 HT7 HM17 HM2 ca7 hba7
      go_wp2_with fail
      refine (mul8_any p _ n c _ k k s a _ _ HT8.out (HA.out.kept0 HK8.out) HM28.out a1 a2 a3 a4 c3 c4).mono ?_
      rintro e w9 ⟨R4, G4, off4, rfl, hM4, _, _, hk9⟩
      have HM39 := Lib.hid (HM3.out.kept0 hk9)
      have hM4r := hM4.rdl (by unfold maxLen; omega) (by unfold maxLen; omega)
      rw [← ofm_congr (m := mm l (mm k a b) c0) (fun i _ j _ => mm_assoc k l a b c0 i j)] at hM4r
      have HM4 := Lib.hid hM4r
      have HK9 := Lib.hid (HK8.out.andThen hk9)
      have HT9 := Lib.hid (HT8.out.kept0 hk9)
      have ca9 := (hk9.cell (p := ⟨ba, oa, none⟩) hba8 (by simp)).trans ca8
      have hba9 : ba < w9.heap.size := by have := hk9.size; omega
      clear hM4 hM4r hk9 HK8 HT8 HM28 HM3 ca8 hba8
      go_wp2_with fail
      refine (unit8_any n _ _ rfl a1 a2).mono ?_
      rintro e wa ⟨R5, G5, off5, rfl, hM5, _, _, hka⟩
      have HM3a := Lib.hid (HM39.out.kept0 hka)
      have HM4a := Lib.hid (HM4.out.kept0 hka)
      have HM5 := Lib.hid (hM5.rdl (by unfold maxLen; omega) (by unfold maxLen; omega))
      have HKa := Lib.hid (HK9.out.andThen hka)
      have HTa := Lib.hid (HT9.out.kept0 hka)
      have caa := (hka.cell (p := ⟨ba, oa, none⟩) hba9 (by simp)).trans ca9
      have hbaa : ba < wa.heap.size := by have := hka.size; omega
      clear hM5 hka HK9 HT9 HM39 HM4 ca9 hba9
      go_wp2_with fail
      refine (mul8_any p _ n n _ c n k _ a _ HTa.out HM5.out (HA.out.kept0 HKa.out) a1 a2 a1 a2 a3 a4).mono ?_
      rintro e wb ⟨R6, G6, off6, rfl, hM6, _, _, hkb⟩
      have HM3b := Lib.hid (HM3a.out.kept0 hkb)
      have HM4b := Lib.hid (HM4a.out.kept0 hkb)
      have hM6r := hM6.rdl (by unfold maxLen; omega) (by unfold maxLen; omega)
      rw [ofm_congr (m' := a) (fun i hi j hj => mm_un_left a hi j)] at hM6r
      have HM6 := Lib.hid hM6r
      have HKb := Lib.hid (HKa.out.andThen hkb)
      have HTb := Lib.hid (HTa.out.kept0 hkb)
      have cab := (hkb.cell (p := ⟨ba, oa, none⟩) hbaa (by simp)).trans caa
      clear hM6 hM6r hkb HKa HTa HM3a HM4a HM5 caa hbaa
      go_wp2_with fail
      refine (unit8_any k _ _ rfl a3 a4).mono ?_
      rintro e wc ⟨R7, G7, off7, rfl, hM7, _, _, hkc⟩
      have HM3c := Lib.hid (HM3b.out.kept0 hkc)
      have HM4c := Lib.hid (HM4b.out.kept0 hkc)
      have HM6c := Lib.hid (HM6.out.kept0 hkc)
      have HM7 := Lib.hid (hM7.rdl (by unfold maxLen; omega) (by unfold maxLen; omega))
      have HKc := Lib.hid (HKb.out.andThen hkc)
      have HTc := Lib.hid (HTb.out.kept0 hkc)
      clear hM7 hkc HKb HTb HM3b HM4b HM6 cab
      go_wp2_with fail
      refine (mul8_any p _ n c _ k k k a _ _ HTc.out (HA.out.kept0 HKc.out) HM7.out a1 a2 a3 a4 a3 a4).mono ?_
      rintro e wd ⟨R8, G8, off8, rfl, hM8, _, _, hkd⟩
      have HM3d := Lib.hid (HM3c.out.kept0 hkd)
      have HM4d := Lib.hid (HM4c.out.kept0 hkd)
      have HM6d := Lib.hid (HM6c.out.kept0 hkd)
      have hM8r := hM8.rdl (by unfold maxLen; omega) (by unfold maxLen; omega)
      rw [ofm_congr (m' := a) (fun i hi j hj => mm_un_right a i hj)] at hM8r
      have HM8 := Lib.hid hM8r
      have HKd := Lib.hid (HKc.out.andThen hkd)
      clear hM8 hM8r hkd HKc HTc HM3c HM4c HM6c HM7
      go_wp2_with fail
      refine (sameAll7_any _ _ _ _ _ _ _ _ HM3d.out HM4d.out).mono ?_
      rintro e we ⟨rfl, he⟩
      have hke : Kept [] wd we := by obtain ⟨m, rfl⟩ := he; exact (Kept.refl [] wd).drewN m
      have HKe := Lib.hid (HKd.out.andThen hke)
      have HM6e := Lib.hid (HM6d.out.kept0 hke)
      have HM8e := Lib.hid (HM8.out.kept0 hke)
      clear he hke HM3d HM4d HM6d HM8 HKd
      go_wp2_with fail
      refine (sameAll7_any _ _ _ _ _ _ _ _ HM6e.out (HA.out.kept0 HKe.out)).mono ?_
      rintro e wf ⟨rfl, hf⟩
      have hkf : Kept [] we wf := by obtain ⟨m, rfl⟩ := hf; exact (Kept.refl [] we).drewN m
      have HKf := Lib.hid (HKe.out.andThen hkf)
      have HM8f := Lib.hid (HM8e.out.kept0 hkf)
      clear hf hkf HM6e HM8e HKe
      go_wp2_with fail
      refine (sameAll7_any _ _ _ _ _ _ _ _ HM8f.out (HA.out.kept0 HKf.out)).mono ?_
      rintro e wg ⟨rfl, hg⟩
      have HKg : Hid (Kept [] w wg) := Lib.hid (by obtain ⟨m, rfl⟩ := hg; exact HKf.out.drewN m)
      clear hg HKf HM8f
      go_wp2
      go_ret
      exact ⟨rfl, HKg.out⟩
    · have hne : (l : Int) ≠ (n'' : Int) := by omega
      go_wp2
      go_ret
      exact ⟨rfl, HK4.out⟩
  · have hne : (k : Int) ≠ (n' : Int) := by omega
    go_wp2
    go_ret
    exact ⟨rfl, HK4.out⟩
end Go.Proofs.Ytmfbgogfefgglaa
