/-
  The walks of two laws of layer 1: what was put is taken; a small number has one way to be told. No statement of the seed is proved here.
-/
import Derived.Test.YtfkhlnhnanimkaaRd2
import Derived.Test.YtfkhlnhnanimkaaBinMath2
namespace Go.Proofs.Ytfkhlnhnanimkaa
open Go.RowKit
set_option linter.unusedVariables false

theorem off_new {A : Option Addr} {n c : Nat} {bs : List UInt8} {w w1 : World} (h : RdB w A n c bs) (hk : Kept [] w w1) {F : List Nat} (hF : ∀ k, k ∈ F → w.heap.size ≤ k) (hn : 0 < n) : Off A F := by
  intro a ha hm
  obtain ⟨b, off, e, hb, _⟩ := h.at_ hn
  rw [ha] at e
  injection e with e
  subst e
  have := hF _ hm
  simp at this
  omega

theorem back_walk (a0 a1 : Int) (A : Option Addr) (n c : Nat) (bs : List UInt8) (w : World) (w0 : (Lit.int .u64 a0).wf = true) (w1 : (Lit.int .u32 a1).wf = true) (hr : RdB w A n c bs) :
    Calls Try.prog 5 #[.int .u64 a0, .int .u32 a1, .slice A n c] w fun e w' => e = .returned (.bool true) ∧ Kept [] w w' := by
  obtain ⟨x0, x1⟩ := bounds_u64 w0
  obtain ⟨s0, s1⟩ := bounds_u32 w1
  by_cases hn : 2000 < n
  · go_enter Try.func5, Try.ntmps5
    go_wp2_with fail
    refine (wakes_any _).mono ?_
    rintro e w1 ⟨rfl, hk1⟩
    go_wp2
    go_ret
    exact ⟨rfl, hk1⟩
  · go_enter Try.func5, Try.ntmps5
    go_wp2_with fail
    refine (wakes_any _).mono ?_
    rintro e w1 ⟨rfl, hk1⟩
    go_wp2_with fail
    refine (wNum_any _ _ _ a0 8 _ (Wri.new _) x0 x1 (by omega) (by omega) (by omega) (by simp)).mono ?_
    rintro e w2 ⟨rfl, F2, hP2⟩
    have hl2 : (be 8 a0.toNat).length = 8 := be_length _ _
    go_wp2_with fail
    refine (wSmall_any _ _ _ a1 _ hP2.wri s0 s1 (by rw [List.length_append, hl2]; decide)).mono ?_
    rintro e w3 ⟨rfl, F3, hP3⟩
    have hP := hP2.alloc.trans hP3
    have hl3 : (be 8 a0.toNat ++ sm a1.toNat).length ≤ 20 := by
      have := wid_pos a1.toNat
      rw [List.length_append, hl2, sm_length]; unfold fol; split <;> omega
    have hsz := hk1.size
    have hF3 : ∀ k, k ∈ F3 → w.heap.size ≤ k := by
      intro k hk
      rcases hP.foot k hk with h | h
      · simp at h; omega
      · omega
    have hkw : Kept [] w w3 := hk1.trans hP.kept (by simp; omega)
    clear hP2 hP3
    go_wp2_with fail
    refine (wText_any _ _ _ A n c bs _ hP.wri (hr.kept0 hkw) (off_new hr hk1 hF3) (by omega) (by rw [List.nil_append]; omega)).mono ?_
    rintro e w4 ⟨rfl, F4, hP4⟩
    have hQ := hP.trans hP4
    have hkw4 : Kept [] w w4 := hk1.trans hQ.kept (by simp; omega)
    have hW := hQ.wri
    rw [List.nil_append] at hW
    have hlen : (be 8 a0.toNat ++ sm a1.toNat ++ (sm n ++ bs)).length ≤ 140737488355328 := by
      have := wid_pos n
      have := hr.len
      have h2 : (sm n ++ bs).length = 1 + fol n + bs.length := by rw [List.length_append, sm_length]
      rw [List.length_append, h2]; unfold fol; split <;> omega
    clear hP hP4 hQ
    go_wp2_with fail
    refine (wOut_any _ _ _ _ hW hlen).mono ?_
    rintro e w5 ⟨v, rfl, ho5, hk5, hf5⟩
    obtain ⟨A5, n5, c5, rfl, hrd5, hbl5⟩ := ho5.form
    have hn5 : n5 ≤ 140737488355328 := by have := hrd5.len; omega
    go_wp2_with fail
    refine (rNew_any A5 n5 c5 _ _ hrd5 hn5).mono ?_
    rintro e w6 ⟨r, rfl, hR, hk6, hr6⟩
    have hkw6 := (hkw4.andThen hk5).andThen hk6
    clear hW hlen
    go_wp2_with fail
    refine (rNum_any r _ 0 8 _ hR).mono ?_
    rintro e w7 ⟨x, d, er, ht, rfl, hT⟩
    rw [List.drop_zero, List.append_assoc] at ht
    have ht2 := (tnum_be 8 a0.toNat (sm a1.toNat ++ (sm n ++ bs)) (by omega) (by omega) (by omega)).symm.trans ht
    simp only [Prod.mk.injEq] at ht2
    obtain ⟨rfl, rfl, rfl⟩ := ht2
    go_wp2_with fail
    refine (rSmall_any r _ _ 4294967295 _ hT.rea (by omega)).mono ?_
    rintro e w8 ⟨x, d, er, hu, rfl, hU⟩
    have hd8 : (be 8 a0.toNat ++ (sm a1.toNat ++ (sm n ++ bs))).drop (0 + 8) = sm a1.toNat ++ (sm n ++ bs) := by
      rw [List.drop_append_of_le_length (by omega), List.drop_of_length_le (by omega), List.nil_append]
    rw [List.append_assoc, hd8] at hu
    have hu2 := (tsm_sm a1.toNat (4294967295 : Int).toNat (sm n ++ bs) (by omega) (by show a1.toNat ≤ 4294967295; omega)).symm.trans hu
    simp only [Prod.mk.injEq] at hu2
    obtain ⟨rfl, rfl, rfl⟩ := hu2
    go_wp2_with fail
    refine (rText_any r _ _ n _ hU.rea (by omega) (by omega)).mono ?_
    rintro e w9 ⟨t, v9, d9, er9, hv, rfl, hV, ho9, hf9⟩
    have hd9 : (be 8 a0.toNat ++ (sm a1.toNat ++ (sm n ++ bs))).drop (0 + 8 + (1 + fol a1.toNat)) = sm n ++ bs := by
      rw [← List.drop_drop, hd8, ← sm_length, List.drop_append_of_le_length (Nat.le_refl _), List.drop_of_length_le (Nat.le_refl _), List.nil_append]
    have hbl := hr.len
    have hv2 := ttext_put bs [] n (by omega) (by omega)
    rw [hbl, List.append_nil] at hv2
    rw [List.append_assoc, hd9] at hv
    have hv3 := hv2.symm.trans hv
    simp only [Prod.mk.injEq] at hv3
    obtain ⟨rfl, rfl, rfl⟩ := hv3
    obtain ⟨A9, n9, c9, rfl, hrd9, hbl9⟩ := ho9.form
    obtain rfl : n = n9 := by have := hrd9.len; omega
    have hkw9 : Kept [] w w9 := ((hkw6.trans hT.kept (by have := hkw4.size; have := hk5.size; simp; omega)).trans hU.kept (by have := hkw4.size; have := hk5.size; simp; omega)).trans hV.kept (by have := hkw4.size; have := hk5.size; simp; omega)
    have hend : 0 + 8 + (1 + fol a1.toNat) + (1 + fol n + n) = (be 8 a0.toNat ++ sm a1.toNat ++ (sm n ++ bs)).length := by
      simp only [List.length_append, sm_length, hl2, hbl]
    have hRe := hV.rea
    rw [hend] at hRe
    clear hu hv hv2 ht hd8 hd9 hend hT hU hV hbl
    go_wp2_with fail
    refine (same_yes _ _ _ _ _ bs _ hrd9 (hr.kept0 hkw9)).mono ?_
    rintro e w10 ⟨rfl, m, rfl⟩
    go_wp2_with fail
    refine (rEnd_yes r _ _ (hRe.drewN m)).mono ?_
    rintro e w11 ⟨rfl, hk11⟩
    go_wp2
    go_ret
    refine ⟨?_, (hkw9.drewN m).andThen hk11⟩
    simp

theorem one_walk (A : Option Addr) (n c : Nat) (bs : List UInt8) (w : World) (hr : RdB w A n c bs) :
    Calls Try.prog 6 #[.slice A n c] w fun e w' => e = .returned (.bool true) ∧ Kept [] w w' := by
  have hcc := hr.cap
  have hcm := hr.most
  unfold maxLen at hcm
  by_cases hn : 2000 < n
  · go_enter Try.func6, Try.ntmps6
    go_wp2_with fail
    refine (wakes_any _).mono ?_
    rintro e w1 ⟨rfl, hk1⟩
    go_wp2
    go_ret
    exact ⟨rfl, hk1⟩
  · go_enter Try.func6, Try.ntmps6
    go_wp2_with fail
    refine (wakes_any _).mono ?_
    rintro e w1 ⟨rfl, hk1⟩
    go_wp2_with fail
    refine (rNew_any A n c _ _ (hr.kept0 hk1) (by omega)).mono ?_
    rintro e w2 ⟨r, rfl, hR, hk2, hr2⟩
    have hkw := hk1.andThen hk2
    have hs1 := hk1.size
    go_wp2_with fail
    refine (rSmall_any r _ 0 4294967295 _ hR (by omega)).mono ?_
    rintro e w3 ⟨x, d, er, ht, rfl, hT⟩
    have hkw3 : Kept [] w w3 := hkw.trans hT.kept (by simp; omega)
    rw [List.drop_zero] at ht
    obtain ⟨hx, hs, hs5, he3, hz⟩ := tsm_facts ht
    by_cases her : er = 0
    · subst her
      have hsm := sm_of_tsm ht
      have HS := Lib.hid hsm
      have hl := hr.len
      have hdn : d ≤ n := by omega
      clear hsm hl ht hz
      go_wp2_with fail
      refine (wSmall_any _ _ _ _ _ (Wri.new _) (by omega) (by omega) (by simp)).mono ?_
      rintro e w4 ⟨rfl, F4, hP4⟩
      have hk4 : Kept [] w3 w4 := ((Kept.refl [] w3).alloc _).trans hP4.kept (by simp)
      have hW := hP4.wri
      rw [Int.toNat_natCast, List.nil_append] at hW
      clear hP4
      go_wp2_with fail
      refine (wOut_any _ _ _ _ hW (by rw [← HS.out, List.length_take]; omega)).mono ?_
      rintro e w5 ⟨v, rfl, ho5, hk5, hf5⟩
      obtain ⟨A5, n5, c5, rfl, hrd5, hbl5⟩ := ho5.form
      rw [← HS.out] at hrd5
      obtain rfl : d = n5 := by have := hrd5.len; rw [List.length_take] at this; have := hr.len; omega
      have hk35 := hk4.andThen hk5
      go_wp2_with fail
      refine (rAt_any r bs _ _ (hT.rea.kept0 hk35)).mono ?_
      rintro e w6 ⟨rfl, rfl⟩
      rw [Nat.zero_add]
      go_wp2_with fail
      refine (same_yes _ _ _ _ _ (bs.take d) _ hrd5 ((hr.take d hdn).kept0 (hkw3.andThen hk35))).mono ?_
      rintro e w7 ⟨rfl, m, rfl⟩
      go_wp2
      go_ret
      exact ⟨rfl, (hkw3.andThen hk35).drewN m⟩
    · obtain ⟨rfl, rfl⟩ := hz her
      have hne : ((er : Int) != 0) = true := by simp; omega
      clear hz
      go_wp2_with fail
      refine (rAt_any r bs _ _ hT.rea).mono ?_
      rintro e w6 ⟨rfl, rfl⟩
      go_wp2
      go_ret
      exact ⟨rfl, hkw3⟩
end Go.Proofs.Ytfkhlnhnanimkaa
