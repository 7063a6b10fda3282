/-
  Contracts of layer 10, the document's own: which text stands ahead. No statement of the seed is proved here.
-/
import Derived.Test.YtboienifeciidaaDoorNr3
import Derived.Test.YtboienifeciidaaDoorRunW
import Derived.Deep.QuietTactic
import Derived.BigQuiet
namespace Go.Proofs.YtboienifeciidaaDoor
open Go.RowKit
set_option linter.unusedVariables false

theorem idx_rows (A : Option Addr) (g N c j : Nat) (z : Int) (hA : A = some ⟨g, 0, none⟩) (hz : z = j) (hj : j < N) (q : Nat) (hq : 3 * j = q) (v : World) : (Instr.indexAt 31 (.slice A N c) (.int .i64 z)).run Tryd.prog v = .ok (.pointer (some ⟨g, q, none⟩)) v := by
  subst hz hq hA
  have he : Tryd.prog.elem 31 = 34 := by kernel_rfl
  rw [run_indexAt_slice (h := by rw [he]; exact Tryd.underlying31), if_pos ⟨by omega, by omega⟩, he, Tryd.sizeOf34]
  simp only [Result.andThen]
  congr 4
  rw [Addr.add_mid, Nat.zero_add, Int.toNat_natCast, Nat.mul_comm]
theorem runes_get (l : List UInt8) (j : Nat) (r : Rn) (h : (rowsL l)[j]? = some r) : (runesL l).drop j = r.1 :: (runesL l).drop (j + 1) := by
  have h1 : (runesL l)[j]? = some r.1 := by rw [← rowsL_runes, List.getElem?_map, h]; rfl
  obtain ⟨hk, hb⟩ := List.getElem?_eq_some_iff.1 h1
  rw [List.drop_eq_getElem_cons hk, hb]

set_option maxRecDepth 100000 in
set_option maxHeartbeats 4000000 in
theorem rLess_any (a b : ByteArray) (w : World) (ha : a.size ≤ 1000000) (hb : b.size ≤ 1000000) :
    Calls Tryd.prog 6 #[.string a, .string b] w fun e w' => e = .returned (.bool (lexL (runesL (strL a)) (runesL (strL b)))) ∧ Kept [] w w' := by
  obtain ⟨R, hR⟩ : ∃ R, lexL (runesL (strL a)) (runesL (strL b)) = R := ⟨_, rfl⟩
  rw [hR]
  have HR := Lib.hid hR
  clear hR
  have HGa : Hid (∀ j r, (rowsL (strL a))[j]? = some r → (runesL (strL a)).drop j = r.1 :: (runesL (strL a)).drop (j + 1)) := Lib.hid (fun j r => runes_get (strL a) j r)
  have HGb : Hid (∀ j r, (rowsL (strL b))[j]? = some r → (runesL (strL b)).drop j = r.1 :: (runesL (strL b)).drop (j + 1)) := Lib.hid (fun j r => runes_get (strL b) j r)
  have HLa := Lib.hid (rowsL_length (strL a))
  have HLb := Lib.hid (rowsL_length (strL b))
  have HAa : Hid (∀ w, Calls Tryd.prog 10 #[.string a] w fun e w' => ∃ v, e = .returned v ∧ OwN w' v (rowsL (strL a)) ∧ Kept [] w w') := Lib.hid (fun w => rAll_any a w (by omega))
  have HAb : Hid (∀ w, Calls Tryd.prog 10 #[.string b] w fun e w' => ∃ v, e = .returned v ∧ OwN w' v (rowsL (strL b)) ∧ Kept [] w w') := Lib.hid (fun w => rAll_any b w (by omega))
  have HSa : Hid ((runesL (strL a)).length ≤ 1000000) := Lib.hid (by have := runesL_length (strL a); rw [strL_length] at this; omega)
  have HSb : Hid ((runesL (strL b)).length ≤ 1000000) := Lib.hid (by have := runesL_length (strL b); rw [strL_length] at this; omega)
  generalize rowsL (strL a) = ra at *
  generalize rowsL (strL b) = rb at *
  generalize runesL (strL a) = xa at *
  generalize runesL (strL b) = xb at *
  obtain ⟨N, hN⟩ : ∃ N, ra.length = N := ⟨_, rfl⟩
  obtain ⟨M, hM⟩ : ∃ M, rb.length = M := ⟨_, rfl⟩
  rw [hN] at HLa
  rw [hM] at HLb
  go_enter Tryd.func6, Tryd.ntmps6
  go_wp2_with fail
  refine (HAa.out _).mono ?_
  rintro e w1 ⟨v1, rfl, hO1, hk1⟩
  obtain ⟨A, ca, rfl, _, _, _⟩ := hO1.form
  rw [hN]
  go_wp2_with fail
  refine (HAb.out _).mono ?_
  rintro e w2 ⟨v2, rfl, hO2, hk2⟩
  have hO1' := hO1.kept0 hk2
  obtain ⟨A', ca', hAe, _, _, hcA⟩ := hO1'.form
  obtain ⟨B, cb, rfl, _, _, hcB⟩ := hO2.form
  rw [hN] at hAe hcA
  cases hAe
  rw [hM] at hcB ⊢
  have HN := Lib.hid hN
  have HM := Lib.hid hM
  have hkw := hk1.andThen hk2
  have HcA := Lib.hid hcA
  have HcB := Lib.hid hcB
  clear hN hM hO1 hO1' hO2 hcA hcB hk1 hk2
  have hNm : N ≤ 1000000 := by have := HSa.out; have := HLa.out; omega
  have hMm : M ≤ 1000000 := by have := HSb.out; have := HLb.out; omega
  go_wp2
  go_loopw [7] (fun i wr => ∃ k : Nat, k ≤ N ∧ k ≤ M ∧ i = .int .i64 k ∧ Kept [] w2 wr ∧ Hid (R = lexL (xa.drop k) (xb.drop k))) (fun i _ => N - (intOf i).toNat)
  case atStart => exact ⟨0, by omega, by omega, rfl, Kept.refl _ _, Lib.hid (by rw [List.drop_zero, List.drop_zero, HR.out])⟩
  case round =>
    obtain ⟨k, hkN, hkM, rfl, hkr, Hr⟩ := hrel
    by_cases hp : k < N
    · by_cases hq : k < M
      · obtain ⟨x, hx⟩ : ∃ r, ra[k]? = some r := ⟨_, List.getElem?_eq_getElem (by have := HN.out; omega)⟩
        obtain ⟨y, hy⟩ : ∃ r, rb[k]? = some r := ⟨_, List.getElem?_eq_getElem (by have := HM.out; omega)⟩
        obtain ⟨ga, eA, hga, hca⟩ := HcA.out (by omega)
        obtain ⟨gb, eB, hgb, hcb⟩ := HcB.out (by omega)
        obtain ⟨q, hq3⟩ : ∃ q, 3 * k = q := ⟨_, rfl⟩
        have ia := idx_rows A ga N ca k (k : Int) eA rfl hp q hq3
        have ib := idx_rows B gb M cb k (k : Int) eB rfl hq q hq3
        have c1 := (hca k x hx).1
        have c2 := (hcb k y hy).1
        rw [hq3] at c1 c2
        have d1 : wr.cell? ⟨ga, q, none⟩ = some (.int .i64 x.1) := by rw [hkr.cell hga (by simp)]; exact c1
        have d2 : wr.cell? ⟨gb, q, none⟩ = some (.int .i64 y.1) := by rw [hkr.cell hgb (by simp)]; exact c2
        obtain ⟨z1, hz1⟩ : ∃ z : Int, (x.1 : Int) = z := ⟨_, rfl⟩
        obtain ⟨z2, hz2⟩ : ∃ z : Int, (y.1 : Int) = z := ⟨_, rfl⟩
        rw [hz1] at d1
        rw [hz2] at d2
        have Hda := Lib.hid (HGa.out k x hx)
        have Hdb := Lib.hid (HGb.out k y hy)
        have Hz1 := Lib.hid hz1
        have Hz2 := Lib.hid hz2
        clear hx hy hca hcb eA eB hq3 c1 c2 hz1 hz2
        by_cases hzz : z1 = z2
        · have Hr2 : Hid (R = lexL (xa.drop (k + 1)) (xb.drop (k + 1))) := Lib.hid (by
            rw [Hr.out, Hda.out, Hdb.out]
            have : x.1 = y.1 := by have := Hz1.out; have := Hz2.out; omega
            simp only [lexL, if_pos this])
          subst hzz
          clear Hr
          go_wp2
          go_quiet (fail)
          go_wp2
          go_roundw
          case rel => exact ⟨k + 1, by omega, by omega, by go_num, hkr.drewN _, Hr2⟩
          case measure => simp [intOf]; omega
        · have hbb : (z1 != z2) = true := bne_iff_ne.2 hzz
          have Hf : Hid (R = decide (z1 < z2)) := Lib.hid (by
            rw [Hr.out, Hda.out, Hdb.out]
            have h1 := Hz1.out
            have h2 := Hz2.out
            simp only [lexL, if_neg (show ¬ x.1 = y.1 from fun e => hzz (by omega))]
            exact decide_eq_decide.2 (by omega))
          clear Hr
          go_wp2
          go_quiet (fail)
          have d3 : (wr.drewN nq).cell? ⟨ga, q, none⟩ = some (.int .i64 z1) := d1
          have d4 : (wr.drewN nq).cell? ⟨gb, q, none⟩ = some (.int .i64 z2) := d2
          have hkd := hkr.drewN nq
          generalize wr.drewN nq = wd at *
          clear d1 d2 hkr
          go_wp2
          go_quiet (fail)
          go_wp2
          go_ret
          exact ⟨by rw [Hf.out] <;> rfl, hkw.andThen (hkd.drewN _)⟩
      · obtain rfl : k = M := by omega
        have Hf : Hid (R = decide (N < k)) := Lib.hid (by
          rw [Hr.out, show xb.drop k = [] from List.drop_eq_nil_of_le (by have := HLb.out; omega), decide_eq_false (by omega)]
          cases xa.drop k <;> rfl)
        clear Hr
        go_wp2
        go_ret
        exact ⟨by rw [Hf.out] <;> rfl, hkw.andThen hkr⟩
    · obtain rfl : k = N := by omega
      have Hf : Hid (R = decide (k < M)) := Lib.hid (by
        rw [Hr.out, show xa.drop k = [] from List.drop_eq_nil_of_le (by have := HLa.out; omega)]
        by_cases h : k < M
        · rw [decide_eq_true (by omega)]
          have hl : (xb.drop k).length = M - k := by rw [List.length_drop, HLb.out]
          cases hx : xb.drop k with
          | nil => rw [hx] at hl; simp at hl; omega
          | cons => rfl
        · rw [decide_eq_false (by omega), show xb.drop k = [] from List.drop_eq_nil_of_le (by have := HLb.out; omega)]
          rfl)
      clear Hr
      go_wp2
      go_ret
      exact ⟨by rw [Hf.out] <;> rfl, hkw.andThen hkr⟩
end Go.Proofs.YtboienifeciidaaDoor
