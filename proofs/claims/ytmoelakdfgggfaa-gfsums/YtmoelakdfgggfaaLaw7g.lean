/-
  Walk of layer 7's law GfSums. No statement of the seed is proved here.
-/
import Derived.Test.YtmoelakdfgggfaaLaw7f
import Derived.Test.YtmoelakdfgggfaaR7d
import Derived.Test.YtmoelakdfgggfaaCuts
import Derived.Test.YtmoelakdfgggfaaCutL
import Derived.Test.YtmoelakdfgggfaaPures
import Derived.Deep.RegionHeld3
namespace Go.Proofs.Ytmoelakdfgggfaa
open Go.RowKit
set_option linter.unusedVariables false

theorem size1_tB7 : (Try.prog.info? 35).map (·.size) = some 1 := by kernel_rfl
theorem size1_u87 : (Try.prog.info? 5).map (·.size) = some 1 := by kernel_rfl
theorem sum_one_v (x : UInt8) (l : List UInt8) : gSumV [x] [l] = gscale x l ∧ gSumE [x] [l] = 0 := by
  have h1 : one1 [l] = true := by simp [one1]
  unfold gSumV gSumE
  rw [if_pos ⟨rfl, h1⟩, if_pos ⟨rfl, h1⟩]
  exact ⟨gsum_one x l, rfl⟩
theorem sameAll7_k (A A' : Option Addr) (n c n' c' : Nat) (ls : List (List UInt8)) (w : World) (ha : RdL w A n c ls) (hb : RdL w A' n' c' ls) :
    Calls Try.prog 23 #[.slice A n c, .slice A' n' c'] w fun e w' => e = .returned (.bool true) ∧ Kept [] w w' :=
  (sameAll7_any A A' n c n' c' ls w ha hb).mono fun e w' h => by
    obtain ⟨h1, m, rfl⟩ := h
    exact ⟨h1, (Kept.refl [] w).drewN m⟩

set_option maxRecDepth 100000 in
set_option maxHeartbeats 4000000 in
theorem gfsums_walk (A : Option Addr) (n c : Nat) (cs : List UInt8) (A' : Option Addr) (n' c' : Nat) (ls : List (List UInt8)) (w : World) (hr : RdB w A n c cs) (hl : RdL w A' n' c' ls) :
    Calls Try.prog 6 #[.slice A n c, .slice A' n' c'] w fun e w' => e = .returned (.bool true) ∧ Kept [] w w' := by
  have HR := Lib.hid hr
  have HL := Lib.hid hl
  have Hcl := Lib.hid hr.len
  have Hll := Lib.hid hl.len
  have b1 := hr.cap
  have b2 := hr.most
  have b3 := hl.cap
  have b4 := hl.most
  unfold maxLen at b2 b4
  clear hr hl
  by_cases hn : n ≤ 30
  · go_enter Try.func6, Try.ntmps6
    go_wp2_with fail
    refine (wakes7_any _).mono ?_
    rintro e w1 ⟨rfl, hk1⟩
    have HK1 := Lib.hid hk1
    clear hk1
    go_wp2_with fail
    refine (long7_any A' n' c' ls _ (HL.out.kept0 HK1.out)).mono ?_
    rintro e w2 ⟨q, rfl, rfl, HQ⟩
    cases q with
    | true =>
      go_wp2
      go_ret
      exact ⟨rfl, HK1.out⟩
    | false =>
      have HB := Lib.hid (HQ.out rfl)
      clear HQ
      have hn' := HB.out.1
      have HB2 : Hid (∀ l ∈ ls, l.length ≤ 1000000) := Lib.hid (fun l h => by have := HB.out.2 l h; omega)
      go_wp2_with fail
      refine (make7_any _).mono ?_
      rintro e w3 ⟨p, rfl, hT, hp, hk3⟩
      have HS3 := Lib.hid (And.intro hT (HK1.out.andThen hk3))
      clear hT hp hk3 HK1
      go_wp2_with fail
      refine (copyAll7_any A' n' c' ls _ (HL.out.kept0 HS3.out.2) (by omega) HB2.out).mono ?_
      rintro e w4 ⟨A4, n4, c4, rfl, hl4, hk4⟩
      obtain rfl : n' = n4 := by rw [← hl4.len]; exact Hll.out.symm
      have HS4 := Lib.hid (And.intro (HS3.out.1.kept0 hk4) (And.intro (HS3.out.2.andThen hk4) hl4))
      clear HS3 hl4 hk4
      go_wp2_with fail
      refine (sum7_any p A n c cs A4 n' c4 ls _ HS4.out.1 (HR.out.kept0 HS4.out.2.1) HS4.out.2.2 HB2.out).mono ?_
      rintro e w5 ⟨A5, n5, c5, rfl, hr5, hk5⟩
      have HS5 := Lib.hid (And.intro (HS4.out.1.kept0 hk5) (And.intro (HS4.out.2.1.andThen hk5) (And.intro (HS4.out.2.2.kept0 hk5) hr5)))
      clear HS4 hr5 hk5
      go_wp2_with fail
      refine (sumR7_any A n c cs A' n' c' ls _ (HR.out.kept0 HS5.out.2.1) (HL.out.kept0 HS5.out.2.1) HB2.out).mono ?_
      rintro e w6 ⟨A6, n6, c6, rfl, hr6, hk6⟩
      obtain rfl : n5 = n6 := by rw [← hr6.len]; exact HS5.out.2.2.2.len.symm
      have HS6 := Lib.hid (And.intro (HS5.out.1.kept0 hk6) (And.intro (HS5.out.2.1.andThen hk6) (And.intro (HS5.out.2.2.1.kept0 hk6) (And.intro (HS5.out.2.2.2.kept0 hk6) hr6))))
      clear HS5 hr6 hk6
      generalize gSumE cs ls = se at *
      generalize gSumV cs ls = sv at *
      have hse : (se != se) = false := by simp
      go_wp2_with fail
      refine (same7_t A5 A6 n5 c5 c6 sv _ HS6.out.2.2.2.1 HS6.out.2.2.2.2).mono ?_
      rintro e w7 ⟨rfl, hk7⟩
      have HS7 := Lib.hid (And.intro (HS6.out.1.kept0 hk7) (And.intro (HS6.out.2.1.andThen hk7) (HS6.out.2.2.1.kept0 hk7)))
      clear HS6 hk7
      go_wp2_with fail
      refine (sameAll7_k A4 A' n' c4 n' c' ls _ HS7.out.2.2 (HL.out.kept0 HS7.out.2.1)).mono ?_
      rintro e w8 ⟨rfl, hk8⟩
      have HS8 := Lib.hid (And.intro (HS7.out.1.kept0 hk8) (HS7.out.2.1.andThen hk8))
      clear HS7 hk8
      go_wp2
      go_loopw [56] (fun i wr => ∃ k : Nat, k ≤ n ∧ i = .int .i64 (k : Int) ∧ Hid (TabAt wr p ∧ Kept [] w wr)) (fun i _ => n - (intOf i).toNat)
      case atStart => exact ⟨0, by omega, rfl, HS8⟩
      case round =>
        clear HS8
        obtain ⟨k, hk, rfl, HS⟩ := hrel
        by_cases hlt : k < n
        · by_cases hlt2 : k < n'
          · have hrd := HR.out.kept0 HS.out.2
            have hld := HL.out.kept0 HS.out.2
            obtain ⟨k1, hk1⟩ : ∃ k1 : Nat, k1 = k + 1 := ⟨_, rfl⟩
            have hsum : (k : Int) + 1 = (k1 : Int) := by omega
            have hwrap : IntKind.i64.wrap ((k : Int) + 1) = (k1 : Int) := by rw [hsum, IntKind.wrap_i64]; omega
            obtain ⟨b, off, Ak, nk, ck, l, eA, hb, d1, g1, r1⟩ := hld.at_ hlt2
            obtain ⟨bc, oc, x, eC, d2, g2, hx⟩ := hrd.byte hlt
            obtain ⟨A7, r7, q7⟩ := hrd.cutMid (P := Try.prog) 35 5 Try.underlying35 size1_u87 k k1 (k : Int) (k1 : Int) rfl rfl (by omega) (by omega)
            obtain ⟨A8, r8, q8⟩ := hld.cutOne (P := Try.prog) 36 35 Try.underlying36 size1_tB7 k l (k : Int) (k1 : Int) rfl (by rw [hk1]) hlt2 g1
            have hcut : (cs.drop k).take (k1 - k) = [x] := by
              rw [hk1, show k + 1 - k = 1 by omega]
              have hlen : k < cs.length := (List.getElem?_eq_some_iff.1 g2).1
              have hx2 := (List.getElem?_eq_some_iff.1 g2).2
              rw [List.drop_eq_getElem_cons hlen, List.take_succ_cons, List.take_zero, hx2]
            rw [hcut] at r7
            rw [show k1 - k = 1 by omega] at r7 q7
            have HR7 := Lib.hid r7
            have HR8 := Lib.hid r8
            have Hnk : Hid (nk ≤ 100) := Lib.hid (by rw [← r1.len]; exact HB.out.2 l (List.mem_of_getElem? g1))
            have hnk := Hnk.out
            have HB3 : Hid (∀ t ∈ [l], t.length ≤ 1000000) := Lib.hid (fun t ht => by rw [List.mem_singleton] at ht; subst ht; rw [r1.len]; omega)
            have HSV := Lib.hid (sum_one_v x l)
            have HSl : Hid ((gscale x l).length = nk) := Lib.hid (by rw [gscale_length]; exact r1.len)
            have HR1 := Lib.hid r1
            have HD : Hid ((∃ b off, A' = some ⟨b, off, none⟩ ∧ b < wr.heap.size ∧ wr.cell? ⟨b, off + k, none⟩ = some (.slice Ak nk ck)) ∧ (∃ b off, A = some ⟨b, off, none⟩ ∧ wr.cell? ⟨b, off + k, none⟩ = some (.int .u8 (x.toNat : Int)))) := Lib.hid ⟨⟨b, off, eA, hb, d1⟩, ⟨bc, oc, eC, d2⟩⟩
            have HW := Lib.hid hwrap
            have E7 := Lib.hid q7
            have E8 := Lib.hid q8
            have q3 := r1.cap
            have q4 := r1.most
            unfold maxLen at q4
            clear hrd hld hk1 r7 r8 r1 g1 g2 eA eC hb d1 d2 hcut hwrap q7 q8
            go_wp2
            have hHeld : True := trivial
            refine wp_region_begin (fun _ => True) (by kernel_rfl) ?_
            refine held_pureD 0 64 (.slice A n c) rfl rfl (by kernel_rfl) (by kernel_rfl) (by kernel_rfl) rfl (fun w hS => rfl) hHeld ?_
            simp only [Act.put, List.setIfInBounds_toArray, List.set_cons_succ, List.set_cons_zero]
            refine held_pureD 1 65 (.int .i64 (k : Int)) rfl rfl (by kernel_rfl) (by kernel_rfl) (by kernel_rfl) rfl (fun w hS => rfl) hHeld ?_
            simp only [Act.put, List.setIfInBounds_toArray, List.set_cons_succ, List.set_cons_zero]
            refine held_pureD 2 66 (.int .i64 (k : Int)) rfl rfl (by kernel_rfl) (by kernel_rfl) (by kernel_rfl) rfl (fun w hS => rfl) hHeld ?_
            simp only [Act.put, List.setIfInBounds_toArray, List.set_cons_succ, List.set_cons_zero]
            refine held_pureD 3 67 (.int .i64 (k1 : Int)) rfl rfl (by kernel_rfl) (by kernel_rfl) (by kernel_rfl) rfl (fun w hS => pure_add 3 _ (.tmp 66) (.const (.int .i64 1)) rfl .i64 _ _ _ rfl rfl HW.out w) hHeld ?_
            simp only [Act.put, List.setIfInBounds_toArray, List.set_cons_succ, List.set_cons_zero]
            refine held_pureD 4 68 (.slice A7 1 (c - k)) rfl rfl (by kernel_rfl) (by kernel_rfl) (by kernel_rfl) rfl (fun w hS => pure_cut 35 (.tmp 64) (some (.tmp 65)) (some (.tmp 67)) rfl A n c _ rfl 5 Try.underlying35 w (E7.out w)) hHeld ?_
            simp only [Act.put, List.setIfInBounds_toArray, List.set_cons_succ, List.set_cons_zero]
            refine held_pureD 5 69 (.slice A' n' c') rfl rfl (by kernel_rfl) (by kernel_rfl) (by kernel_rfl) rfl (fun w hS => rfl) hHeld ?_
            simp only [Act.put, List.setIfInBounds_toArray, List.set_cons_succ, List.set_cons_zero]
            refine held_pureD 6 70 (.int .i64 (k : Int)) rfl rfl (by kernel_rfl) (by kernel_rfl) (by kernel_rfl) rfl (fun w hS => rfl) hHeld ?_
            simp only [Act.put, List.setIfInBounds_toArray, List.set_cons_succ, List.set_cons_zero]
            refine held_pureD 7 71 (.int .i64 (k : Int)) rfl rfl (by kernel_rfl) (by kernel_rfl) (by kernel_rfl) rfl (fun w hS => rfl) hHeld ?_
            simp only [Act.put, List.setIfInBounds_toArray, List.set_cons_succ, List.set_cons_zero]
            refine held_pureD 8 72 (.int .i64 (k1 : Int)) rfl rfl (by kernel_rfl) (by kernel_rfl) (by kernel_rfl) rfl (fun w hS => pure_add 3 _ (.tmp 71) (.const (.int .i64 1)) rfl .i64 _ _ _ rfl rfl HW.out w) hHeld ?_
            simp only [Act.put, List.setIfInBounds_toArray, List.set_cons_succ, List.set_cons_zero]
            refine held_pureD 9 73 (.slice A8 1 (c' - k)) rfl rfl (by kernel_rfl) (by kernel_rfl) (by kernel_rfl) rfl (fun w hS => pure_cut 36 (.tmp 69) (some (.tmp 70)) (some (.tmp 72)) rfl A' n' c' _ rfl 35 Try.underlying36 w (E8.out w)) hHeld ?_
            simp only [Act.put, List.setIfInBounds_toArray, List.set_cons_succ, List.set_cons_zero]
            refine held_one 10 (by kernel_rfl) rfl ?_
            go_wp2_with fail
            refine (sumR7_any A7 1 (c - k) [x] A8 1 (c' - k) [l] _ (HR7.out.kept0 (Kept.refl [] wr).drew) (HR8.out.kept0 (Kept.refl [] wr).drew) HB3.out).mono ?_
            rw [HSV.out.1, HSV.out.2]
            rintro e w9 ⟨A9, n9, c9, rfl, hr9, hk9⟩
            have hK9 := (Kept.refl [] wr).drew.andThen hk9
            clear hk9
            go_wp2
            change _ ∧ wpAnyH _ _ _ _ _ _ _ _ _
            refine ⟨(fun (W : World) (_ : Kept [] wr W) => trivial) _ hK9, ?_⟩
            refine held_one 11 (by kernel_rfl) rfl ?_
            go_wp2
            change _ ∧ wpAnyH _ _ _ _ _ _ _ _ _
            refine ⟨(fun (W : World) (_ : Kept [] wr W) => trivial) _ hK9, ?_⟩
            refine held_pureD 12 75 (.slice A9 n9 c9) rfl rfl (by kernel_rfl) (by kernel_rfl) (by kernel_rfl) rfl (fun w hS => rfl) hHeld ?_
            simp only [Act.put, List.setIfInBounds_toArray, List.set_cons_succ, List.set_cons_zero]
            refine held_pureD 13 76 (.int .i64 0) rfl rfl (by kernel_rfl) (by kernel_rfl) (by kernel_rfl) rfl (fun w hS => rfl) hHeld ?_
            simp only [Act.put, List.setIfInBounds_toArray, List.set_cons_succ, List.set_cons_zero]
            refine held_pureD 14 12 (.slice A9 n9 c9) rfl rfl (by kernel_rfl) (by kernel_rfl) (by kernel_rfl) rfl (fun w hS => rfl) hHeld ?_
            simp only [Act.put, List.setIfInBounds_toArray, List.set_cons_succ, List.set_cons_zero]
            refine held_pureD 15 13 (.int .i64 0) rfl rfl (by kernel_rfl) (by kernel_rfl) (by kernel_rfl) rfl (fun w hS => rfl) hHeld ?_
            simp only [Act.put, List.setIfInBounds_toArray, List.set_cons_succ, List.set_cons_zero]
            refine held_done (by kernel_rfl) ?_
            obtain rfl : n9 = nk := by rw [← hr9.len]; exact HSl.out
            obtain ⟨⟨b, off, rfl, hb, d1⟩, ⟨bc, oc, rfl, d2⟩⟩ := HD.out
            have hbc : bc < wr.heap.size := World.block_lt_of_cell? wr _ d2
            have SK : Hid (∀ W, Kept [] w9 W → W.cell? ⟨b, off + k, none⟩ = some (.slice Ak n9 ck) ∧ W.cell? ⟨bc, oc + k, none⟩ = some (.int .u8 (x.toNat : Int))) := Lib.hid (fun W hW => ⟨((hK9.andThen hW).cell (p := ⟨b, off + k, none⟩) hb (by simp)).trans d1, ((hK9.andThen hW).cell (p := ⟨bc, oc + k, none⟩) hbc (by simp)).trans d2⟩)
            have HT9 := Lib.hid (HS.out.1.kept0 hK9)
            have HRa := Lib.hid (HR1.out.kept0 hK9)
            have HR9 := Lib.hid hr9
            have HKK := Lib.hid (HS.out.2.andThen hK9)
            obtain ⟨gx, hgx⟩ : ∃ gx, gscale x l = gx := ⟨_, rfl⟩
            rw [hgx] at HR9
            have Hgx := Lib.hid hgx
            have hxb := x.toNat_lt
            clear hr9 hK9 d1 d2 hb hbc hgx HR7 HR8 HR1 HSV HSl HD HS HB3
            go_wp2
            go_region_held3 (fun w' => w'.cell? ⟨b, off + k, none⟩ = some (.slice Ak n9 ck) ∧ w'.cell? ⟨bc, oc + k, none⟩ = some (.int .u8 (x.toNat : Int)))
              (first
                | exact SK.out _ (Kept.refl [] w9)
                | exact SK.out _ (Kept.refl [] w9).drew
                | exact SK.out _ hKs
                | exact SK.out _ hKt)
              (first
                | (go_at_call 24; refine (scale7_r p x _ Ak n9 ck l gx _ (HT9.out.kept0 (Kept.refl [] w9).drew) rfl (HRa.out.kept0 (Kept.refl [] w9).drew) (by omega) Hgx.out).mono ?_; rintro e ws ⟨gs, rfl, hrs, hTs, hks⟩; have hKs := (Kept.refl [] w9).drew.andThen hks)
                | (go_at_call 22; refine (same7_t _ A9 n9 _ c9 gx _ hrs (HR9.out.kept0 hKs)).mono ?_; rintro e wt ⟨rfl, hkt⟩; have hKt := hKs.andThen hkt))
            have HF := Lib.hid (And.intro (HT9.out.kept0 hKt) (HKK.out.andThen hKt))
            clear hrs hTs hks hKs hkt hKt SK HT9 HRa HR9 HKK
            go_wp2
            go_roundw
            case rel => exact ⟨k + 1, by omega, by go_num, HF⟩
            case measure => simp [intOf]; omega
          · go_wp2
            go_roundw
            case rel => exact ⟨k + 1, by omega, by go_num, HS⟩
            case measure => simp [intOf]; omega
        · go_wp2
          go_ret
          exact ⟨rfl, HS.out.2⟩
  · go_enter Try.func6, Try.ntmps6
    go_wp2_with fail
    refine (wakes7_any _).mono ?_
    rintro e w1 ⟨rfl, hk1⟩
    go_wp2
    go_ret
    exact ⟨rfl, hk1⟩
end Go.Proofs.Ytmoelakdfgggfaa
