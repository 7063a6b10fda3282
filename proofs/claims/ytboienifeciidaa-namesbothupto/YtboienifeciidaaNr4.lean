/-
  Contracts of layer 10, the document's own: is a text a name? No statement of the seed is proved here.
-/
import Derived.Test.YtboienifeciidaaNr3
namespace Go.Proofs.Ytboienifeciidaa
open Go.RowKit
set_option linter.unusedVariables false

theorem rows_head (l : List UInt8) : (runesL l).head? = (rowsL l)[0]?.map (·.1) := by rw [← rowsL_runes, List.head?_map, List.head?_eq_getElem?]
theorem rows_last (l : List UInt8) : (runesL l).getLast? = (rowsL l)[(rowsL l).length - 1]?.map (·.1) := by rw [← rowsL_runes, List.getLast?_map, List.getLast?_eq_getElem?]
theorem rows_mem {l : List UInt8} {j : Nat} {r : Rn} (h : (rowsL l)[j]? = some r) : r.1 ∈ runesL l := by
  rw [← rowsL_runes]
  exact List.mem_map_of_mem (List.mem_of_getElem? h)

theorem idx_row (g N c j : Nat) (z : Int) (hz : z = j) (hj : j < N) (q : Nat) (hq : 3 * j = q) (v : World) : (Instr.indexAt 30 (.slice (some ⟨g, 0, none⟩) N c) (.int .i64 z)).run Try.prog v = .ok (.pointer (some ⟨g, q, none⟩)) v := by
  subst hz hq
  have he : Try.prog.elem 30 = 46 := by kernel_rfl
  rw [run_indexAt_slice (h := by rw [he]; exact Try.underlying30), if_pos ⟨by omega, by omega⟩, he, Try.sizeOf46]
  simp only [Result.andThen]
  congr 4
  rw [Addr.add_mid, Nat.zero_add, Int.toNat_natCast, Nat.mul_comm]
def badZ (z : Int) : Bool := decide (z < 32) || (decide (127 ≤ z) && decide (z ≤ 159)) || decide (z = 47) || decide (z = 65533)
theorem badZ_rune (c : Nat) : badZ (c : Int) = !signOk c := by
  unfold badZ signOk
  rw [show decide ((c : Int) < 32) = !decide (32 ≤ c) by rw [← decide_not]; exact decide_eq_decide.2 (by omega), show decide ((127 : Int) ≤ c) = decide (127 ≤ c) from decide_eq_decide.2 (by omega), show decide ((c : Int) ≤ 159) = decide (c ≤ 159) from decide_eq_decide.2 (by omega),
    show decide ((c : Int) = 47) = !decide (c ≠ 47) by rw [← decide_not]; exact decide_eq_decide.2 (by omega), show decide ((c : Int) = 65533) = !decide (c ≠ 65533) by rw [← decide_not]; exact decide_eq_decide.2 (by omega)]
  simp [Bool.not_and]

set_option maxRecDepth 100000 in
set_option maxHeartbeats 4000000 in
theorem rRight_any (s : ByteArray) (w : World) (hs : s.size ≤ 1000000000000) : Calls Try.prog 11 #[.string s] w fun e w' => e = .returned (.bool (rightL (strL s))) ∧ Kept [] w w' := by
  obtain ⟨R, hR⟩ : ∃ R, rightL (strL s) = R := ⟨_, rfl⟩
  rw [hR]
  have HR := Lib.hid hR
  clear hR
  have Hlen := Lib.hid (rowsL_length (strL s))
  have Hhead := Lib.hid (rows_head (strL s))
  have Hlast := Lib.hid (rows_last (strL s))
  have Hmem : Hid (∀ (j : Nat) (r : Rn), (rowsL (strL s))[j]? = some r → r.1 ∈ runesL (strL s)) := Lib.hid (fun j r h => rows_mem h)
  have Hok := Lib.hid (rowsL_ok (strL s))
  have Hmap := Lib.hid (rowsL_runes (strL s))
  have HnL : Hid ((runesL (strL s)).length ≤ s.size) := Lib.hid (by have := runesL_length (strL s); rw [strL_length] at this; exact this)
  have HAll : Hid (∀ w, Calls Try.prog 13 #[.string s] w fun e w' => ∃ v, e = .returned v ∧ OwN w' v (rowsL (strL s)) ∧ Kept [] w w') := Lib.hid (fun w => rAll_any s w hs)
  generalize rowsL (strL s) = rs at *
  obtain ⟨N, hN⟩ : ∃ N, rs.length = N := ⟨_, rfl⟩
  rw [hN] at Hlen Hlast
  go_enter Try.func11, Try.ntmps11
  go_wp2_with fail
  refine (HAll.out _).mono ?_
  rintro e w1 ⟨v, rfl, hOwn, hk1⟩
  obtain ⟨A, c, rfl, hc1, hc2, hcell⟩ := hOwn.form
  rw [hN] at hcell hc1 ⊢
  have HN := Lib.hid hN
  clear hN hOwn
  rcases (by omega : N = 0 ∨ 24 < N ∨ (1 ≤ N ∧ N ≤ 24)) with h1 | h24 | ⟨h1, h24⟩
  · have Hf : Hid (R = false) := Lib.hid (by
      cases hr : R with
      | false => rfl
      | true => have := ((rightL_iff _).1 (HR.out.trans hr)).one; have := Hlen.out; omega)
    subst h1
    clear hcell
    go_wp2
    go_ret
    exact ⟨by rw [Hf.out] <;> rfl, hk1⟩
  · have Hf : Hid (R = false) := Lib.hid (by
      cases hr : R with
      | false => rfl
      | true => have := ((rightL_iff _).1 (HR.out.trans hr)).most; have := Hlen.out; omega)
    have h1 : 1 ≤ N := by omega
    clear hcell
    go_wp2
    go_ret
    exact ⟨by rw [Hf.out] <;> rfl, hk1⟩
  obtain ⟨g, rfl, hg, hcl⟩ := hcell (by omega)
  have Hcl := Lib.hid hcl
  obtain ⟨r0, hr0⟩ : ∃ r, rs[0]? = some r := ⟨_, List.getElem?_eq_getElem (by have := HN.out; omega)⟩
  obtain ⟨rz, hrz⟩ : ∃ r, rs[N - 1]? = some r := ⟨_, List.getElem?_eq_getElem (by have := HN.out; omega)⟩
  have c0 := (hcl 0 r0 hr0).1
  have cz := (hcl _ rz hrz).1
  obtain ⟨qz, hqz⟩ : ∃ q, 3 * (N - 1) = q := ⟨_, rfl⟩
  rw [hqz] at cz
  have ia0 := idx_row g N c 0 0 rfl (by omega) 0 rfl
  have iaz := idx_row g N c (N - 1) ((N : Int) - 1) (by omega) (by omega) qz hqz
  simp only [Nat.mul_zero] at c0
  obtain ⟨z0, hz0⟩ : ∃ z : Int, (r0.1 : Int) = z := ⟨_, rfl⟩
  obtain ⟨zz, hzz⟩ : ∃ z : Int, (rz.1 : Int) = z := ⟨_, rfl⟩
  rw [hz0] at c0
  rw [hzz] at cz
  have Hz0 := Lib.hid hz0
  have Hzz := Lib.hid hzz
  rw [hr0] at Hhead
  rw [hrz] at Hlast
  clear hcl hcell hr0 hrz hz0 hzz hqz
  by_cases e0 : z0 = 32
  · have Hf : Hid (R = false) := Lib.hid (by
      cases hr : R with
      | false => rfl
      | true =>
        have h := ((rightL_iff _).1 (HR.out.trans hr)).head
        rw [Hhead.out, Option.map_some] at h
        exact absurd (by rw [show r0.1 = 32 by have := Hz0.out; omega]) h)
    subst e0
    go_wp2
    go_ret
    exact ⟨by rw [Hf.out] <;> rfl, hk1⟩
  by_cases ez : zz = 32
  · have Hf : Hid (R = false) := Lib.hid (by
      cases hr : R with
      | false => rfl
      | true =>
        have h := ((rightL_iff _).1 (HR.out.trans hr)).last
        rw [Hlast.out, Option.map_some] at h
        exact absurd (by rw [show rz.1 = 32 by have := Hzz.out; omega]) h)
    subst ez
    go_wp2
    go_ret
    exact ⟨by rw [Hf.out] <;> rfl, hk1⟩
  have i1 : decide ((N : Int) < 1) = false := decide_eq_false (by omega)
  have i2 : decide (24 < (N : Int)) = false := decide_eq_false (by omega)
  have i3 : (z0 == 32) = false := by simpa using e0
  have i4 : (zz == 32) = false := by simpa using ez
  have Hhd : Hid ((runesL (strL s)).head? ≠ some 32) := Lib.hid (by
    rw [Hhead.out, Option.map_some]
    intro h
    injection h with h
    have := Hz0.out; omega)
  have Hls : Hid ((runesL (strL s)).getLast? ≠ some 32) := Lib.hid (by
    rw [Hlast.out, Option.map_some]
    intro h
    injection h with h
    have := Hzz.out; omega)
  clear Hhead Hlast
  go_wp2
  clear ia0 iaz c0 cz i1 i2 i3 i4 e0 ez
  go_loopw [4] (fun i wr => ∃ k : Nat, k ≤ N ∧ i = .int .i64 k ∧ w1 = wr ∧ Hid (∀ (j : Nat) (r : Rn), j < k → rs[j]? = some r → signOk r.1 = true)) (fun i _ => N - (intOf i).toNat)
  case atStart => exact ⟨0, by omega, rfl, rfl, Lib.hid (fun j r hj => absurd hj (by omega))⟩
  case round =>
    obtain ⟨k, hk, rfl, rfl, Hk⟩ := hrel
    by_cases hp : k < N
    · obtain ⟨r, hr⟩ : ∃ r, rs[k]? = some r := ⟨_, List.getElem?_eq_getElem (by have := HN.out; omega)⟩
      obtain ⟨q, hq⟩ : ∃ q, 3 * k = q := ⟨_, rfl⟩
      have ia := idx_row g N c k (k : Int) rfl hp q hq
      have c1 := (Hcl.out k r hr).1
      have c3 := (Hcl.out k r hr).2.2
      rw [hq] at c1 c3
      obtain ⟨z, hz⟩ : ∃ z : Int, (r.1 : Int) = z := ⟨_, rfl⟩
      obtain ⟨ok, hok⟩ : ∃ b : Bool, r.2.2 = b := ⟨_, rfl⟩
      rw [hz] at c1
      rw [hok] at c3
      have hz0 : 0 ≤ z := by omega
      have Hz := Lib.hid hz
      have Hr := Lib.hid hr
      have Hbad : Hid (signOk r.1 = false → R = false) := Lib.hid (fun h => by rw [← HR.out]; exact right_bad (Hmem.out k r hr) h)
      have Hsg : Hid (signOk r.1 = !badZ z) := Lib.hid (by rw [← hz, badZ_rune, Bool.not_not])
      have Hfok : Hid (ok = false → z = 65533) := Lib.hid (fun h => by have := Hok.out r (List.mem_of_getElem? hr) (by rw [hok, h]); omega)
      clear hq hz hok hr
      cases ok with
      | false =>
        have hz5 : z = 65533 := Hfok.out rfl
        have Hf : Hid (R = false) := Lib.hid (Hbad.out (by rw [Hsg.out, hz5]; rfl))
        clear hz5 Hk
        go_wp2
        go_ret
        exact ⟨by rw [Hf.out] <;> rfl, hk1⟩
      | true =>
        rcases (by omega : z < 32 ∨ (127 ≤ z ∧ z ≤ 159) ∨ z = 47 ∨ z = 65533 ∨ ((32 ≤ z ∧ z < 127) ∧ (z ≠ 47 ∧ z ≠ 65533)) ∨ (159 < z ∧ (z ≠ 47 ∧ z ≠ 65533))) with h | h | h | h | h | h
        · have Hf : Hid (R = false) := Lib.hid (Hbad.out (by rw [Hsg.out]; unfold badZ; rw [decide_eq_true h]; rfl))
          clear Hk
          go_wp2
          go_ret
          exact ⟨by rw [Hf.out] <;> rfl, hk1⟩
        · have p1 : ¬ z < 32 := by omega
          obtain ⟨p2, p3⟩ := h
          have Hf : Hid (R = false) := Lib.hid (Hbad.out (by rw [Hsg.out]; unfold badZ; rw [decide_eq_true p2, decide_eq_true p3]; simp))
          clear Hk
          go_wp2
          go_ret
          exact ⟨by rw [Hf.out] <;> rfl, hk1⟩
        · subst h
          have Hf : Hid (R = false) := Lib.hid (Hbad.out (by rw [Hsg.out]; rfl))
          clear Hk
          go_wp2
          go_ret
          exact ⟨by rw [Hf.out] <;> rfl, hk1⟩
        · subst h
          have Hf : Hid (R = false) := Lib.hid (Hbad.out (by rw [Hsg.out]; rfl))
          clear Hk
          go_wp2
          go_ret
          exact ⟨by rw [Hf.out] <;> rfl, hk1⟩
        · have p1 : ¬ z < 32 := by omega
          have p2 : ¬ 127 ≤ z := by omega
          have p3 : (z == 47) = false := by simpa using h.2.1
          have p4 : (z == 65533) = false := by simpa using h.2.2
          have Hk2 : Hid (∀ (j : Nat) (r : Rn), j < k + 1 → rs[j]? = some r → signOk r.1 = true) := Lib.hid (fun j r' hj hr' => by
            by_cases hjk : j = k
            · subst hjk
              have e := Hr.out
              rw [hr'] at e
              injection e with e
              rw [e, Hsg.out]
              unfold badZ
              simp only [Bool.not_eq_true', Bool.or_eq_false_iff, Bool.and_eq_false_iff, decide_eq_false_iff_not]
              omega
            · exact Hk.out j r' (by omega) hr')
          clear Hk h
          go_wp2
          go_roundw
          case rel => exact ⟨k + 1, by omega, by go_num, trivial, Hk2⟩
          case measure => simp [intOf]; omega
        · have p1 : ¬ z < 32 := by omega
          have p2 : 127 ≤ z := by omega
          have p5 : ¬ z ≤ 159 := by omega
          have p3 : (z == 47) = false := by simpa using h.2.1
          have p4 : (z == 65533) = false := by simpa using h.2.2
          have Hk2 : Hid (∀ (j : Nat) (r : Rn), j < k + 1 → rs[j]? = some r → signOk r.1 = true) := Lib.hid (fun j r' hj hr' => by
            by_cases hjk : j = k
            · subst hjk
              have e := Hr.out
              rw [hr'] at e
              injection e with e
              rw [e, Hsg.out]
              unfold badZ
              simp only [Bool.not_eq_true', Bool.or_eq_false_iff, Bool.and_eq_false_iff, decide_eq_false_iff_not]
              omega
            · exact Hk.out j r' (by omega) hr')
          clear Hk h
          go_wp2
          go_roundw
          case rel => exact ⟨k + 1, by omega, by go_num, trivial, Hk2⟩
          case measure => simp [intOf]; omega
    · obtain rfl : k = N := by omega
      have Hf : Hid (R = true) := Lib.hid (by
        rw [← HR.out, rightL_iff]
        refine ⟨by have := Hlen.out; omega, by have := Hlen.out; omega, fun c hc => ?_, Hhd.out, Hls.out⟩
        rw [← Hmap.out, List.mem_map] at hc
        obtain ⟨r, hr, rfl⟩ := hc
        obtain ⟨j, hj⟩ := List.getElem?_of_mem hr
        exact Hk.out j r (by have := (List.getElem?_eq_some_iff.1 hj).1; have := HN.out; omega) hj)
      clear Hk
      go_wp2
      go_ret
      exact ⟨by rw [Hf.out] <;> rfl, hk1⟩
end Go.Proofs.Ytboienifeciidaa
