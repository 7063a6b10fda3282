/-
  Contract of layer 11 (aont): whether packing never makes such an inside, or filling. No statement of the seed is proved here.
-/
import Derived.Test.YtmjeojbdieaakaaDoorAp1
import Derived.Test.YtmjeojbdieaakaaDoorAp2
import Derived.Test.YtmjeojbdieaakaaDoorAp6
namespace Go.Proofs.YtmjeojbdieaakaaDoor
open Go.RowKit
set_option linter.unusedVariables false

@[irreducible] def wrongB (C : Nat) (I fill : List UInt8) : Bool :=
  !(nouB fill) || !(nouB (I.drop C)) || decide (C < lenN I + 2) || !(nouB ((I.drop (2 + lenN I)).take (C - (2 + lenN I)))) || !(decide (lenN I ≤ 1000 ∧ clsN (lenN I) = C))
theorem clsV_own (n : Nat) (C : Nat) (hC : 32 ≤ C) : ∃ O E : Int, clsV (n : Int) = .tuple #[.int .i64 O, .int .i64 E] ∧ ((O = (C : Int)) ↔ (n ≤ 1000 ∧ clsN n = C)) := by
  by_cases h : n ≤ 1000
  · refine ⟨_, _, clsV_yes (by omega) (by omega), ?_⟩
    rw [Int.toNat_natCast]
    omega
  · refine ⟨_, _, clsV_no (.inr (by omega)), ?_⟩
    omega

set_option maxRecDepth 100000 in
set_option maxHeartbeats 4000000 in
theorem aWro_any (C : Nat) (A1 A3 : Option Addr) (c1 n3 c3 : Nat) (I fill : List UInt8) (w : World) (hC0 : 32 ≤ C) (hC1 : C ≤ 1024) (hr1 : RdB w A1 (C + 16) c1 I) (hr3 : RdB w A3 n3 c3 fill) :
    Calls Tryd.prog 35 #[.int .i64 (C : Int), .slice A1 (C + 16) c1, .slice A3 n3 c3] w fun e w' => e = .returned (.bool (wrongB C I fill)) ∧ Kept [] w w' := by
  have hWa : nouB fill = false → wrongB C I fill = true := fun h => by unfold wrongB; rw [h]; rfl
  have hWb : nouB (I.drop C) = false → wrongB C I fill = true := fun h => by unfold wrongB; rw [h]; simp
  have hWc : C < lenN I + 2 → wrongB C I fill = true := fun h => by unfold wrongB; rw [decide_eq_true h]; simp
  have hWd : nouB ((I.drop (2 + lenN I)).take (C - (2 + lenN I))) = false → wrongB C I fill = true := fun h => by unfold wrongB; rw [h]; simp
  have hWe : ¬ (lenN I ≤ 1000 ∧ clsN (lenN I) = C) → wrongB C I fill = true := fun h => by unfold wrongB; rw [decide_eq_false h]; simp
  have hWf : nouB fill = true → nouB (I.drop C) = true → ¬ C < lenN I + 2 → nouB ((I.drop (2 + lenN I)).take (C - (2 + lenN I))) = true → (lenN I ≤ 1000 ∧ clsN (lenN I) = C) → wrongB C I fill = false := fun a b c d e => by
    unfold wrongB
    rw [a, b, decide_eq_false c, d, decide_eq_true e]
    rfl
  obtain ⟨W, hW⟩ : ∃ W, wrongB C I fill = W := ⟨_, rfl⟩
  rw [hW] at hWa hWb hWc hWd hWe hWf ⊢
  have hlt := lenN_lt I
  have HLn := Lib.hid (fun w hr => aLen_any A1 (C + 16) c1 I w hr (by omega))
  obtain ⟨N, hN⟩ : ∃ N, lenN I = N := ⟨_, rfl⟩
  rw [hN] at hWc hWd hWe hWf hlt HLn
  obtain ⟨O, E, hO, hOC⟩ := clsV_own N C hC0
  have HO := Lib.hid hO
  rw [← hOC] at hWe hWf
  have Ha := Lib.hid hWa
  have Hb := Lib.hid hWb
  have Hc := Lib.hid hWc
  have Hd := Lib.hid hWd
  have He := Lib.hid hWe
  have Hf := Lib.hid hWf
  have HR1 := Lib.hid hr1
  have HR3 := Lib.hid hr3
  obtain ⟨Ab, hrb, ob, qb⟩ := hr1.cutFrom (P := Tryd.prog) 22 5 Tryd.underlying22 size1ap C (C : Int) rfl (by omega)
  obtain ⟨cb, hcb⟩ : ∃ cb, c1 - C = cb := ⟨_, rfl⟩
  rw [hcb, Nat.add_sub_cancel_left] at hrb qb
  have Hrb := Lib.hid hrb
  have b1 := hr1.cap
  have b2 := hr1.most
  have b3 := hr3.cap
  have b4 := hr3.most
  unfold maxLen at b2 b4
  clear hW hWa hWb hWc hWd hWe hWf hN hO hOC hr1 hr3 hrb ob hcb
  go_enter Tryd.func35, Tryd.ntmps35
  go_wp2_with fail
  refine (HLn.out _ HR1.out).mono ?_
  rintro e w1 ⟨rfl, hk1⟩
  have HK1 := Lib.hid hk1
  clear hk1
  go_wp2_with fail
  refine (aCls_any _ _).mono ?_
  rw [HO.out]
  rintro e w' ⟨rfl, rfl⟩
  go_wp2_with fail
  refine (aNou_any _ _ _ _ _ (HR3.out.kept0 HK1.out)).mono ?_
  rintro e w' ⟨rfl, rfl⟩
  cases hb1 : nouB fill with
  | false =>
    have H := Lib.hid (Ha.out hb1)
    clear hb1
    go_wp2
    go_ret
    exact ⟨by rw [H.out] <;> rfl, HK1.out⟩
  | true =>
    have H1 := Lib.hid hb1
    clear hb1
    go_wp2_with fail
    refine (aNou_any _ _ _ _ _ (Hrb.out.kept0 HK1.out)).mono ?_
    rintro e w' ⟨rfl, rfl⟩
    cases hb2 : nouB (I.drop C) with
    | false =>
      have H := Lib.hid (Hb.out hb2)
      clear hb2
      go_wp2
      go_ret
      exact ⟨by rw [H.out] <;> rfl, HK1.out⟩
    | true =>
      have H2 := Lib.hid hb2
      clear hb2
      by_cases hb3 : C < N + 2
      · have H := Lib.hid (Hc.out hb3)
        have hd : (C : Int) - 2 < (N : Int) := by omega
        go_wp2
        go_ret
        exact ⟨by rw [H.out] <;> rfl, HK1.out⟩
      · have H3 := Lib.hid hb3
        have hd : ¬ (C : Int) - 2 < (N : Int) := by omega
        obtain ⟨L, hL⟩ : ∃ L, 2 + N = L := ⟨_, rfl⟩
        have HL : Hid (2 + (N : Int) = (L : Int)) := Lib.hid (by omega)
        have hLc : L ≤ C := by omega
        have hLe : 2 + (N : Int) = (L : Int) := HL.out
        obtain ⟨Ad, hrd, od, qd⟩ := HR1.out.cutMidO (P := Tryd.prog) 22 5 Tryd.underlying22 size1ap L C (L : Int) (C : Int) rfl rfl hLc (by omega)
        obtain ⟨cd, hcd⟩ : ∃ cd, c1 - L = cd := ⟨_, rfl⟩
        obtain ⟨nd, hnd⟩ : ∃ nd, C - L = nd := ⟨_, rfl⟩
        rw [hcd, hnd] at hrd qd
        have Hrd := Lib.hid hrd
        have HND := Lib.hid hnd
        rw [← hLe] at qd
        have HL2 := Lib.hid hL
        clear hrd od hL hLe hcd hnd
        go_wp2_with fail
        refine (aNou_any _ _ _ _ _ (Hrd.out.kept0 HK1.out)).mono ?_
        rintro e w' ⟨rfl, rfl⟩
        cases hb4 : nouB ((I.drop L).take nd) with
        | false =>
          have H := Lib.hid (Hd.out (by rw [HL2.out, HND.out]; exact hb4))
          clear hb4
          go_wp2
          go_ret
          exact ⟨by rw [H.out] <;> rfl, HK1.out⟩
        | true =>
          have H4 := Lib.hid hb4
          clear hb4
          by_cases hb5 : O = (C : Int)
          · have H := Lib.hid (Hf.out H1.out H2.out H3.out (by rw [HL2.out, HND.out]; exact H4.out) hb5)
            go_wp2
            go_ret
            exact ⟨by rw [H.out] <;> rfl, HK1.out⟩
          · have H := Lib.hid (He.out hb5)
            go_wp2
            go_ret
            exact ⟨by rw [H.out] <;> rfl, HK1.out⟩
end Go.Proofs.YtmjeojbdieaakaaDoor
