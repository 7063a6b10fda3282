/-
  Contract of layer 13 (frame): the frame that a text tells. No statement of the seed is proved here.
-/
import Derived.Test.YtibcjbelcplpjaaDoorFp1
import Derived.Test.YtibcjbelcplpjaaDoorFp5
import Derived.Test.YtibcjbelcplpjaaDoorFp6
import Derived.Test.YtibcjbelcplpjaaDoorFpN
import Derived.Test.YtibcjbelcplpjaaDoorHeldQ
import Derived.Test.YtibcjbelcplpjaaDoorPe
import Derived.BigRegion
namespace Go.Proofs.YtibcjbelcplpjaaDoor
open Go.RowKit
set_option linter.unusedVariables false

/-- The frame that a text tells, or what is wrong. -/
def TkRet (p : List UInt8) (w : World) (e : Ending) (w' : World) : Prop :=
  Kept [] w w' ∧ (((frPick p).2 = 0 ∧ ∃ A n c, e = .returned (.agg (frc (frPick p).1 A n c).toArray) ∧ FrAt w' (frPick p).1 A n c ∧ ∀ q, (Value.slice A n c).ownBlock = some q → w.heap.size ≤ q) ∨ ((frPick p).2 ≠ 0 ∧ Throw (frPick p).2 e))
theorem off_ownS {A : Option Addr} {n c : Nat} {S : List Nat} (h : ∀ g, (Value.slice A n c).ownBlock = some g → g ∉ S) : Off A S := fun a ha => by
  subst ha
  exact h a.block rfl
theorem tk_no {p : List UInt8} {f : Fr} {er : Nat} {w w' : World} {e : Ending} (h : frPick p = (f, er)) (he : er ≠ 0) (hk : Kept [] w w') (ht : Throw er e) : TkRet p w e w' := by
  unfold TkRet
  rw [h]
  exact ⟨hk, .inr ⟨he, ht⟩⟩
theorem tk_yes {p : List UInt8} {f : Fr} {A : Option Addr} {n c : Nat} {w w' : World} (h : frPick p = (f, 0)) (hk : Kept [] w w') (hf : FrAt w' f A n c) (hq : ∀ q, (Value.slice A n c).ownBlock = some q → w.heap.size ≤ q) : TkRet p w (.returned (.agg (frc f A n c).toArray)) w' := by
  unfold TkRet
  rw [h]
  exact ⟨hk, .inl ⟨rfl, A, n, c, rfl, hf, hq⟩⟩

set_option maxRecDepth 100000 in
set_option maxHeartbeats 16000000 in
theorem fTk_any (A : Option Addr) (n c : Nat) (p : List UInt8) (w : World) (hr : RdB w A n c p) (hn : n ≤ 100000) : Calls Tryd.prog 28 #[.slice A n c] w (TkRet p w) := by
  have HP := Lib.hid hr.len
  have HR := Lib.hid hr
  have b1 := hr.cap
  have b2 := hr.most
  unfold maxLen at b2
  have H1 : Hid (n < 22 → ∀ w', Kept [] w w' → TkRet p w (.panicked [{ v := thrown 1, recovered := false }]) w') := Lib.hid (fun h w' hk => tk_no (frPk_short (by rw [HP.out]; exact h)) (by omega) hk rfl)
  clear hr
  go_enter Tryd.func28, Tryd.ntmps28
  go_wp2_with (with_reducible change wpList _ _ _ (⟨_, Op.alloc _, _, _, _, _⟩ :: _) _ _; refine wpList_alloc_blk rfl 28 rfl _ zeroFr ?_)
  intro w1 hR1 hk1 hs1
  obtain ⟨g2, hg2⟩ : ∃ g, g = w.heap.size := ⟨_, rfl⟩
  rw [← hg2] at hR1 ⊢
  have G2 := Lib.hid hg2
  have HR1 := Lib.hid hR1
  have HK1 := Lib.hid hk1
  clear hg2 hR1 hk1 hs1
  go_wp2_with fail
  refine (rNew_any A n c p _ (HR.out.kept0 HK1.out) (by omega)).mono ?_
  rintro e w2 ⟨r, rfl, hre, hk2, hrn⟩
  have HR2 := Lib.hid (HR1.out.kept0 hk2)
  have HK2 := Lib.hid (HK1.out.andThen hk2)
  have Hrg : Hid (g2 < r) := Lib.hid (by have := HR1.out.lt; omega)
  have HRe := Lib.hid hre
  clear hre hk2 hrn HR1 HK1
  go_wp2_with (with_reducible change wpList _ _ _ (⟨_, Op.alloc _, _, _, _, _⟩ :: _) _ _; refine wpList_alloc_blk rfl 28 rfl _ zeroFr ?_)
  intro w3 hG3 hk3 hs3
  obtain ⟨g, hg⟩ : ∃ g, g = w2.heap.size := ⟨_, rfl⟩
  rw [← hg] at hG3 ⊢
  have Hgr : Hid (r < g) := Lib.hid (by have := HRe.out.lt; omega)
  have HG3 := Lib.hid hG3
  have HR3 := Lib.hid (HR2.out.kept0 hk3)
  have HRe3 := Lib.hid (HRe.out.kept0 hk3)
  have HK3 := Lib.hid (HK2.out.andThen hk3)
  have HrN : Hid (w.heap.size ≤ r ∧ w.heap.size ≤ g ∧ w.heap.size ≤ g2) := Lib.hid (by have := G2.out; have := Hrg.out; have := Hgr.out; omega)
  clear hg hG3 hk3 hs3 HR2 HRe HK2
  go_wp2_with fail
  by_cases h1 : 1 ≤ n
  · skip
    refine (fTn_yes r p 0 1 _ HRe3.out (by omega) (by omega) (by rw [HP.out]; omega)).mono ?_
    obtain ⟨x0, hx0⟩ : ∃ x : Nat, num ((p.drop 0).take 1) = x := ⟨_, rfl⟩
    rw [hx0]
    have HX0 : Hid ((p[0]?).getD 0 = 241 ↔ x0 = 241) := Lib.hid (by
      have e := List.getElem?_eq_getElem (l := p) (i := 0) (by rw [HP.out]; omega)
      have h2 := num_one e
      rw [hx0] at h2
      rw [e, h2]
      simp only [Option.getD_some]
      exact ⟨fun h => by rw [h]; rfl, fun h => UInt8.toNat_inj.1 h⟩)
    have Hx0 : Hid (x0 < 256) := Lib.hid (by
      have e := List.getElem?_eq_getElem (l := p) (i := 0) (by rw [HP.out]; omega)
      have h2 := num_one e
      rw [hx0] at h2
      have := (p[0]'(by rw [HP.out]; omega)).toNat_lt
      omega)
    clear hx0
    rintro e w4 ⟨rfl, ht4⟩
    have hgr : g ∉ [r] := by simp; have := Hgr.out; omega
    have hg2r : g2 ∉ [r] := by simp; have := Hrg.out; omega
    have HG4 : Hid (Blk w4 g 28 (frc (frO p 0) none 0 0)) := Lib.hid (by rw [frO_zero]; exact HG3.out.kept ht4.kept hgr)
    have HR4 := Lib.hid (HR3.out.kept ht4.kept hg2r)
    have HRe4 : Hid (Rea w4 r p (1 + 0)) := Lib.hid (by simpa using ht4.rea)
    have HK4 : Hid (Kept [] w w4) := Lib.hid (HK3.out.trans ht4.kept (fun i hi => .inr (by have := List.mem_singleton.1 hi; have := HrN.out; omega)))
    have Hgr1 := Lib.hid hgr
    have Hgr2 := Lib.hid hg2r
    clear ht4 hgr hg2r HG3 HR3 HRe3 HK3
    go_wp2
    go_loopw [13] (fun i wr => ∃ k : Nat, k ≤ 16 ∧ i = .int .i64 (k : Int) ∧ Hid (1 + k ≤ n) ∧ Hid (Rea wr r p (1 + k)) ∧ Hid (Blk wr g 28 (frc (frO p k) none 0 0)) ∧ Hid (Blk wr g2 28 (frc fr0 none 0 0)) ∧ Hid (Kept [] w wr)) (fun i _ => 16 - (intOf i).toNat)
    case atStart => exact ⟨0, by omega, rfl, Lib.hid (by omega), HRe4, HG4, HR4, HK4⟩
    case round =>
      obtain ⟨k, hk, rfl, Hkn, HRe, HG, HR2, HK⟩ := hrel
      clear HG4 HR4 HRe4 HK4
      by_cases hlt : k < 16
      · go_wp2_with fail
        by_cases hm : 1 + k + 1 ≤ n
        · skip
          refine (fTn_yes r p (1 + k) 1 _ HRe.out (by omega) (by omega) (by rw [HP.out]; omega)).mono ?_
          obtain ⟨b, hb⟩ : ∃ b, p[1 + k]? = some b := ⟨_, List.getElem?_eq_getElem (by rw [HP.out]; omega)⟩
          rw [num_one hb]
          have hb1 := b.toNat_lt
          have HS := Lib.hid (frO_set hlt hb)
          obtain ⟨z, hz⟩ : ∃ z : Int, ((b.toNat : Nat) : Int) = z := ⟨_, rfl⟩
          rw [hz] at HS ⊢
          have hzw : IntKind.u8.wrap z = z := IntWalk.u8_in _ (by omega)
          clear hz hb hb1
          rintro e w6 ⟨rfl, ht6⟩
          have hG6 := HG.out.kept ht6.kept Hgr1.out
          have hR6 := HR2.out.kept ht6.kept Hgr2.out
          have hK6 : Kept [] w w6 := HK.out.trans ht6.kept (fun i hi => .inr (by have := List.mem_singleton.1 hi; have := HrN.out; omega))
          obtain ⟨v0, hv0⟩ : ∃ v0, w6.cell? ⟨g, k, none⟩ = some v0 := ⟨_, (hG6.cell k).trans (List.getElem?_eq_getElem (by rw [frc_length (frO_obj (by omega) (by rw [HP.out]; omega))]; omega))⟩
          have hf0 := hG6.frz k
          have HG7 : Hid (Blk (w6.setCell ⟨g, k, none⟩ (.int .u8 z)) g 28 (frc (frO p (k + 1)) none 0 0)) := Lib.hid (by have := hG6.set k (.int .u8 z); rw [HS.out] at this; exact this)
          have hks : Kept [g] w6 (w6.setCell ⟨g, k, none⟩ (.int .u8 z)) := (Kept.refl [g] w6).setCell (.inl (by simp)) _
          have HR7 : Hid (Blk (w6.setCell ⟨g, k, none⟩ (.int .u8 z)) g2 28 (frc fr0 none 0 0)) := Lib.hid (hR6.kept hks (by simp; have := Hrg.out; have := Hgr.out; omega))
          have HK7 : Hid (Kept [] w (w6.setCell ⟨g, k, none⟩ (.int .u8 z))) := Lib.hid (hK6.trans hks (fun i hi => .inr (by have := List.mem_singleton.1 hi; have := HrN.out; omega)))
          have HRe7 : Hid (Rea (w6.setCell ⟨g, k, none⟩ (.int .u8 z)) r p (1 + (k + 1))) := Lib.hid (ht6.rea.keptS hks (fun i hi => by have := List.mem_singleton.1 hi; have := Hgr.out; omega))
          have Hkn7 : Hid (1 + (k + 1) ≤ n) := Lib.hid (by omega)
          clear hG6 hR6 hK6 hks ht6 HS HRe HG HR2 HK hm Hkn
          go_wp2
          go_roundw
          case rel => exact ⟨k + 1, by omega, by go_num, Hkn7, HRe7, HG7, HR7, HK7⟩
          case measure => simp [intOf]; omega
        · skip
          refine (fTn_no r p (1 + k) 1 _ HRe.out (by omega) (by omega) (by rw [HP.out]; omega)).mono ?_
          rintro e w6 ⟨h2, hk6⟩
          unfold Throw at h2
          subst h2
          exact ⟨rfl, H1.out (by omega) _ (HK.out.trans hk6 (fun i hi => .inr (by have := List.mem_singleton.1 hi; have := HrN.out; omega)))⟩
      · obtain rfl : k = 16 := by omega
        have h17 := Hkn.out
        have HG0 : Hid (Blk wr g 28 (frc (frN p 0) none 0 0)) := Lib.hid (by rw [← frO_all (by rw [HP.out]; exact h17)]; exact HG.out)
        have HRe0 : Hid (Rea wr r p (posN 0)) := Lib.hid (by rw [posN_zero]; exact HRe.out)
        have Hkn0 : Hid (posN 0 ≤ n) := Lib.hid (by rw [posN_zero]; exact h17)
        have H17 : Hid (17 ≤ p.length) := Lib.hid (by rw [HP.out]; exact h17)
        clear h17 HG HRe hlt hk Hkn
        go_wp2_with (go_at_call 37; refine (fNums_any g _).mono ?_; rintro e w6 ⟨rfl, hk6⟩)
        have HG6 := Lib.hid (HG0.out.kept0 hk6)
        have HR6 := Lib.hid (HR2.out.kept0 hk6)
        have HRe6 := Lib.hid (HRe0.out.kept0 hk6)
        have HK6 := Lib.hid (HK.out.andThen hk6)
        clear hk6 HG0 HR2 HRe0 HK
        go_loopw [24] (fun i wr => ∃ j : Nat, j ≤ 4 ∧ i = .int .i64 (j : Int) ∧ Hid (posN j ≤ n) ∧ Hid (Rea wr r p (posN j)) ∧ Hid (Blk wr g 28 (frc (frN p j) none 0 0)) ∧ Hid (Blk wr g2 28 (frc fr0 none 0 0)) ∧ Hid (Kept [] w wr)) (fun i _ => 4 - (intOf i).toNat)
        case atStart => exact ⟨0, by omega, rfl, Hkn0, HRe6, HG6, HR6, HK6⟩
        case round =>
          clear HG6 HR6 HRe6 HK6 Hkn0
          obtain ⟨j, hj, rfl, Hkn, HRe, HG, HR2, HK⟩ := hrel
          by_cases hlt : j < 4
          · have hix := nums_ix g j hlt
            have HS1 := Lib.hid (posN_succ hlt)
            have HS2 := Lib.hid (frN_set hlt H17.out)
            have HS3 := Lib.hid (fun h => numZ_told (p := p) hlt h)
            obtain ⟨s, hs⟩ : ∃ s, numS j = s := ⟨_, rfl⟩
            have Hs : Hid (1 ≤ s ∧ s ≤ 2) := Lib.hid (by rw [← hs]; exact numS_le j)
            obtain ⟨z, hz⟩ : ∃ z, numZ (frTold p []) j = z := ⟨_, rfl⟩
            obtain ⟨x, hx⟩ : ∃ x, posN j = x := ⟨_, rfl⟩
            have Hx : Hid (x ≤ 22) := Lib.hid (by rw [← hx]; exact (posN_le (by omega)).2)
            have Hx2 : Hid (posN (j + 1) ≤ 22) := Lib.hid (posN_le (by omega)).2
            rw [hs] at hix HS1 HS3
            rw [hz] at HS2 HS3
            rw [hx] at HS1 HS3 HRe Hkn
            clear hs hz hx
            go_wp2_with (with_reducible change wpList _ _ _ (⟨_, Op.alloc _, _, _, _, _⟩ :: _) _ _; refine wpList_alloc_blk rfl 72 rfl _ zeroNum ?_)
            intro w6 hN6 hk6 hs6
            obtain ⟨q, hq⟩ : ∃ q, q = wr.heap.size := ⟨_, rfl⟩
            rw [← hq] at hN6 ⊢
            have Q0 := Lib.hid hq
            clear hq
            go_wp2_with (with_reducible change wpList _ _ _ (⟨_, Op.store _ _ _, _, _, _, _⟩ :: _) _ _; refine wpList_store_blk rfl 72 (.tmp 8) (.tmp 26) rfl q [.pointer (some ⟨g, 16 + j, none⟩), .int .i64 (s : Int)] rfl rfl 72 _ hN6 (by kernel_rfl) rfl (by simp [Value.oneCell']) ?_)
            intro w7 hN7 hk7 hs7
            have HK7 : Hid (Kept [] wr w7) := Lib.hid (hk6.trans hk7 (fun i hi => .inr (by have := List.mem_singleton.1 hi; have := Q0.out; omega)))
            have Hqr : Hid (q ∉ [r]) := Lib.hid (by simp; have := HRe.out.lt; have := Q0.out; omega)
            have SK : Hid (∀ W, Kept [r] w7 W → W.cell? ⟨q, 0, none⟩ = some (.pointer (some ⟨g, 16 + j, none⟩)) ∧ W.cell? ⟨q, 1, none⟩ = some (.int .i64 (s : Int))) :=
              Lib.hid (fun W hk => ⟨(hN7.kept hk Hqr.out).cell 0, (hN7.kept hk Hqr.out).cell 1⟩)
            have HG7 := Lib.hid (HG.out.kept0 HK7.out)
            have HR7 := Lib.hid (HR2.out.kept0 HK7.out)
            have HRe7 := Lib.hid (HRe.out.kept0 HK7.out)
            have HKw := Lib.hid (HK.out.andThen HK7.out)
            have Hqg : Hid (g < q) := Lib.hid (by have := HG.out.lt; have := Q0.out; omega)
            clear hN6 hk6 hs6 hk7 hs7 hN7 hix HG HR2 HRe HK HK7
            go_wp2
            have hHeld := SK.out _ (Kept.refl [r] w7).drew
            refine wp_region_beginQ (fun W => W.cell? ⟨q, 0, none⟩ = some (.pointer (some ⟨g, 16 + j, none⟩)) ∧ W.cell? ⟨q, 1, none⟩ = some (.int .i64 (s : Int))) (by kernel_rfl) ?_
            refine held_pureQ 0 27 (.pointer (some ⟨q, 0, none⟩)) (fun _ _ _ _ _ h => h) rfl rfl (by kernel_rfl) (by kernel_rfl) (by kernel_rfl) rfl (fun w hS => by kernel_rfl) hHeld ?_
            simp only [Act.put, List.setIfInBounds_toArray, List.set_cons_succ, List.set_cons_zero]
            refine held_pureQ 1 28 (.pointer (some ⟨g, 16 + j, none⟩)) (fun _ _ _ _ _ h => h) rfl rfl (by kernel_rfl) (by kernel_rfl) (by kernel_rfl) rfl (fun w hS => pureC 70 (.tmp 27) rfl ⟨q, 0, none⟩ _ rfl (fun w => by kernel_rfl) w hS.1) hHeld ?_
            simp only [Act.put, List.setIfInBounds_toArray, List.set_cons_succ, List.set_cons_zero]
            refine held_pureQ 2 29 (.pointer (some ⟨r, 0, none⟩)) (fun _ _ _ _ _ h => h) rfl rfl (by kernel_rfl) (by kernel_rfl) (by kernel_rfl) rfl (fun w hS => rfl) hHeld ?_
            simp only [Act.put, List.setIfInBounds_toArray, List.set_cons_succ, List.set_cons_zero]
            refine held_pureQ 3 30 (.pointer (some ⟨q, 1, none⟩)) (fun _ _ _ _ _ h => h) rfl rfl (by kernel_rfl) (by kernel_rfl) (by kernel_rfl) rfl (fun w hS => by kernel_rfl) hHeld ?_
            simp only [Act.put, List.setIfInBounds_toArray, List.set_cons_succ, List.set_cons_zero]
            refine held_pureQ 4 31 (.int .i64 (s : Int)) (fun _ _ _ _ _ h => h) rfl rfl (by kernel_rfl) (by kernel_rfl) (by kernel_rfl) rfl (fun w hS => pureC 3 (.tmp 30) rfl ⟨q, 1, none⟩ _ rfl (fun w => by kernel_rfl) w hS.2) hHeld ?_
            simp only [Act.put, List.setIfInBounds_toArray, List.set_cons_succ, List.set_cons_zero]
            refine held_one 5 (by kernel_rfl) rfl ?_
            go_wp2_with fail
            by_cases hm : x + s ≤ n
            · skip
              refine (fTn_yes r p x s _ (HRe7.out.kept0 (Kept.refl [] w7).drew) Hs.out.1 Hs.out.2 (by rw [HP.out]; exact hm)).mono ?_
              rw [← HS3.out (by rw [HP.out]; exact hm)]
              rintro e w8 ⟨rfl, ht8⟩
              have hk8 : Kept [r] w7 w8 := ((Kept.refl [r] w7).drew).trans ht8.kept (fun i hi => .inl hi)
              have hG8 := HG7.out.kept hk8 Hgr1.out
              have hR8 := HR7.out.kept hk8 Hgr2.out
              have hK8 : Kept [] w w8 := HKw.out.trans hk8 (fun i hi => .inr (by have := List.mem_singleton.1 hi; have := HrN.out; omega))
              have hS8 := SK.out _ hk8
              obtain ⟨v0, hv0⟩ : ∃ v0, w8.cell? ⟨g, 16 + j, none⟩ = some v0 := ⟨_, (hG8.cell (16 + j)).trans (List.getElem?_eq_getElem (by rw [frc_length (frN_obj H17.out)]; omega))⟩
              have hf0 := hG8.frz (16 + j)
              have HG9 : Hid (Blk (w8.setCell ⟨g, 16 + j, none⟩ (.int .i64 z)) g 28 (frc (frN p (j + 1)) none 0 0)) := Lib.hid (by have := hG8.set (16 + j) (.int .i64 z); rw [HS2.out] at this; exact this)
              have hks : Kept [g] w8 (w8.setCell ⟨g, 16 + j, none⟩ (.int .i64 z)) := (Kept.refl [g] w8).setCell (.inl (by simp)) _
              have HR9 : Hid (Blk (w8.setCell ⟨g, 16 + j, none⟩ (.int .i64 z)) g2 28 (frc fr0 none 0 0)) := Lib.hid (hR8.kept hks (by simp; have := Hrg.out; have := Hgr.out; omega))
              have HK9 : Hid (Kept [] w (w8.setCell ⟨g, 16 + j, none⟩ (.int .i64 z))) := Lib.hid (hK8.trans hks (fun i hi => .inr (by have := List.mem_singleton.1 hi; have := HrN.out; omega)))
              have HRe9 : Hid (Rea (w8.setCell ⟨g, 16 + j, none⟩ (.int .i64 z)) r p (posN (j + 1))) := Lib.hid (by rw [← HS1.out]; exact ht8.rea.keptS hks (fun i hi => by have := List.mem_singleton.1 hi; have := Hgr.out; omega))
              have Hkn9 : Hid (posN (j + 1) ≤ n) := Lib.hid (by rw [← HS1.out]; exact hm)
              have hS9 : (w8.setCell ⟨g, 16 + j, none⟩ (.int .i64 z)).cell? ⟨q, 0, none⟩ = some (.pointer (some ⟨g, 16 + j, none⟩)) ∧ (w8.setCell ⟨g, 16 + j, none⟩ (.int .i64 z)).cell? ⟨q, 1, none⟩ = some (.int .i64 (s : Int)) := by
                exact ⟨by rw [World.cell?_setCell_other _ _ _ _ (by simp)]; exact hS8.1, by rw [World.cell?_setCell_other _ _ _ _ (by simp)]; exact hS8.2⟩
              clear hk8 hG8 hR8 hK8 hks ht8 hm
              go_wp2
              change _ ∧ wpAnyH _ _ _ _ _ _ _ _ _
              refine ⟨hS8, ?_⟩
              have hHeld := hS8
              refine held_pureQ 6 33 (.pointer (some ⟨g, 16 + j, none⟩)) (fun _ _ _ _ _ h => h) rfl rfl (by kernel_rfl) (by kernel_rfl) (by kernel_rfl) rfl (fun w hS => by kernel_rfl) hHeld ?_
              simp only [Act.put, List.setIfInBounds_toArray, List.set_cons_succ, List.set_cons_zero]
              refine held_one 7 (by kernel_rfl) rfl ?_
              go_wp2
              change _ ∧ wpAnyH _ _ _ _ _ _ _ _ _
              refine ⟨hS9, ?_⟩
              refine held_doneQ (by kernel_rfl) ?_
              clear hS8 hS9 hv0 hf0 hHeld
              go_wp2
              go_roundw
              case rel => exact ⟨j + 1, by omega, by go_num, Hkn9, HRe9, HG9, HR9, HK9⟩
              case measure => simp [intOf]; omega
            · skip
              refine (fTn_no r p x s _ (HRe7.out.kept0 (Kept.refl [] w7).drew) Hs.out.1 Hs.out.2 (by rw [HP.out]; omega)).mono ?_
              rintro e w8 ⟨h2, hk8⟩
              unfold Throw at h2
              subst h2
              exact ⟨rfl, H1.out (by have := HS1.out; have := Hx2.out; omega) _ (HKw.out.drew.trans hk8 (fun i hi => .inr (by have := List.mem_singleton.1 hi; have := HrN.out; omega)))⟩
          · obtain rfl : j = 4 := by omega
            have h22 : 22 ≤ p.length := by have := Hkn.out; rw [posN_four] at this; rw [HP.out]; exact this
            have HRe0 : Hid (Rea wr r p 22) := Lib.hid (by have := HRe.out; rw [posN_four] at this; exact this)
            have HG0 : Hid (Blk wr g 28 (frc (frTold p []) none 0 0)) := Lib.hid (by have := HG.out; rw [frN_all] at this; exact this)
            obtain ⟨t, d, er, ht⟩ : ∃ t d er, ttext (p.drop 22) 65536 = (t, d, er) := ⟨_, _, _, rfl⟩
            have H22 := Lib.hid h22
            have HT := Lib.hid ht
            clear h22 HRe HG Hkn hlt hj ht
            go_wp2_with fail
            by_cases her : er = 0
            · subst her
              refine (fTt_yes r p 22 d t _ HRe0.out HT.out).mono ?_
              rintro e w6 ⟨v6, rfl, ht6, ho6, hf6⟩
              obtain ⟨A6, n6, c6, rfl, hr6, _⟩ := ho6.form
              have hG6 := HG0.out.kept ht6.kept Hgr1.out
              have hR6 := HR2.out.kept ht6.kept Hgr2.out
              have hK6 : Kept [] w w6 := HK.out.trans ht6.kept (fun i hi => .inr (by have := List.mem_singleton.1 hi; have := HrN.out; omega))
              have HF6 : Hid (∀ q, (Value.slice A6 n6 c6).ownBlock = some q → w.heap.size ≤ q ∧ q ≠ g ∧ q ≠ g2) := Lib.hid (fun q hq => by have h1 := hf6 q hq; have h2 := HK.out.size; have h3 := HG0.out.lt; have h4 := HR2.out.lt; omega)
              obtain ⟨v0, hv0⟩ : ∃ v0, w6.cell? ⟨g, 20, none⟩ = some v0 := ⟨_, (hG6.cell 20).trans (List.getElem?_eq_getElem (by rw [frc_length (told_obj (by have := H22.out; omega))]; omega))⟩
              have hf0 := hG6.frz 20
              obtain ⟨w7, hw7⟩ : ∃ w7, w7 = w6.setCell ⟨g, 20, none⟩ (.slice A6 n6 c6) := ⟨_, rfl⟩
              have HG7 : Hid (Blk w7 g 28 (frc (frTold p t) A6 n6 c6)) := Lib.hid (by have := hG6.set 20 (.slice A6 n6 c6); rw [told_set (t := t) (by have := H22.out; omega)] at this; rw [hw7]; exact this)
              have hks : Kept [g] w6 w7 := by rw [hw7]; exact (Kept.refl [g] w6).setCell (.inl (by simp)) _
              have HR7 : Hid (Blk w7 g2 28 (frc fr0 none 0 0)) := Lib.hid (hR6.kept hks (by simp; have := Hrg.out; have := Hgr.out; omega))
              have HK7 : Hid (Kept [] w w7) := Lib.hid (hK6.trans hks (fun i hi => .inr (by have := List.mem_singleton.1 hi; have := HrN.out; omega)))
              have HRe7 : Hid (Rea w7 r p (22 + d)) := Lib.hid (ht6.rea.keptS hks (fun i hi => by have := List.mem_singleton.1 hi; have := Hgr.out; omega))
              have HP7 : Hid (RdB w7 A6 n6 c6 t) := Lib.hid (hr6.keptIf hks (fun hn => off_ownS (fun q hq => by have := (HF6.out q hq).2.1; simpa using this)))
              have W7 := Lib.hid hw7
              clear hG6 hR6 hK6 ht6 ho6 hf6 hr6 HG0 HR2 HRe0 HK hks hw7
              have hxx : ((x0 : Int) != 241) = decide (x0 ≠ 241) := by
                rw [Bool.eq_iff_iff]; simp; omega
              by_cases hx1 : x0 = 241
              · subst hx1
                go_wp2_with fail
                rw [← W7.out]
                have hle := HRe7.out.le
                by_cases hend : 22 + d < p.length
                · have HFo := Lib.hid (frPk_form (t := t) (d := d) H22.out HT.out (.inr hend))
                  refine (rEnd_no r p (22 + d) _ HRe7.out hend).mono ?_
                  rintro e w8 ⟨rfl, hk8⟩
                  clear hend hle
                  go_wp2_with fail
                  refine (must_no 2 (by omega) _).mono ?_
                  rintro e w9 ⟨h2, rfl⟩
                  unfold Throw at h2
                  subst h2
                  exact ⟨rfl, tk_no HFo.out (by omega) (HK7.out.andThen hk8) rfl⟩
                · have hde : 22 + d = p.length := by omega
                  have HFo := Lib.hid (frPk_right H22.out HT.out (HX0.out.2 (by trivial)) hde)
                  refine (rEnd_yes r p _ (by rw [← hde]; exact HRe7.out)).mono ?_
                  rintro e w8 ⟨rfl, hk8⟩
                  have HG8 := Lib.hid (HG7.out.kept0 hk8)
                  have HR8 := Lib.hid (HR7.out.kept0 hk8)
                  have HK8 := Lib.hid (HK7.out.andThen hk8)
                  have HFA : Hid (FrAt w8 (frTold p t) A6 n6 c6) := Lib.hid (told_at (by have := H22.out; omega) (HP7.out.kept0 hk8))
                  have HSf := Lib.hid (frc_size (A := A6) (n := n6) (c := c6) HFA.out.obj)
                  have HS0 : Hid ((frc fr0 none 0 0).length = (frc (frTold p t) A6 n6 c6).length) := Lib.hid (by rw [frc_length (by unfold fr0; simp), frc_length HFA.out.obj])
                  have HSo := Lib.hid (frc_one (frTold p t) A6 n6 c6)
                  obtain ⟨L, hL⟩ : ∃ L, frc (frTold p t) A6 n6 c6 = L := ⟨_, rfl⟩
                  have HRi : Hid (∀ W, FrAt W (frTold p t) A6 n6 c6 → Calls Tryd.prog 13 #[.agg L.toArray] W fun e w' => e = .returned (.bool (frRight (frTold p t))) ∧ Kept [] W w') := Lib.hid (fun W hW => by rw [← hL]; exact fRi_any _ _ _ _ W hW)
                  have HL := Lib.hid hL
                  rw [hL] at HG8 HSf HS0 HSo
                  clear hk8 HG7 HR7 HK7 HP7 hde hend hle hL
                  go_wp2_with (first
                    | (go_at_call 35; refine (must_ok _).mono ?_; rintro e w9 ⟨rfl, rfl⟩)
                    | (with_reducible change wpList _ _ _ (⟨_, Op.load 28 _, _, _, _, _⟩ :: _) _ _; refine wpList_load_blk rfl 28 (.tmp 4) rfl g rfl 28 _ _ HG8.out Tryd.underlying28 rfl HSf.out ?_))
                  refine (HRi.out _ HFA.out).mono ?_
                  rintro e w9 ⟨rfl, hk9⟩
                  have HG9 := Lib.hid (HG8.out.kept0 hk9)
                  have HR9 := Lib.hid (HR8.out.kept0 hk9)
                  have HK9 := Lib.hid (HK8.out.andThen hk9)
                  have HFA9 := Lib.hid (HFA.out.kept0 hk9)
                  clear hk9 HG8 HR8 HK8 HFA
                  cases hR : frRight (frTold p t) with
                  | false =>
                    have HF2 : Hid (frPick p = (fr0, 14)) := Lib.hid (by rw [HFo.out, hR]; rfl)
                    clear hR
                    go_wp2
                    exact ⟨rfl, tk_no HF2.out (by omega) HK9.out rfl⟩
                  | true =>
                    have HF2 : Hid (frPick p = (frTold p t, 0)) := Lib.hid (by rw [HFo.out, hR]; rfl)
                    clear hR
                    go_wp2_with (first
                      | (with_reducible change wpList _ _ _ (⟨_, Op.load 28 _, _, _, _, _⟩ :: _) _ _; refine wpList_load_blk rfl 28 (.tmp 4) rfl g rfl 28 _ _ HG9.out Tryd.underlying28 rfl HSf.out ?_)
                      | (with_reducible change wpList _ _ _ (⟨_, Op.store _ _ _, _, _, _, _⟩ :: _) _ _; refine wpList_store_blk rfl 28 (.tmp 2) (.tmp 48) rfl g2 L rfl rfl 28 _ HR9.out HSf.out HS0.out HSo.out ?_))
                    intro w10 hR10 hk10 hs10
                    have hK10 : Kept [] w w10 := HK9.out.trans hk10 (fun i hi => .inr (by have := List.mem_singleton.1 hi; have := HrN.out; omega))
                    have hFA10 := HFA9.out.kept hk10 (fun hn => off_ownS (fun q hq => by have := (HF6.out q hq).2.2; simpa using this))
                    go_wp2
                    refine bodyPost_ret (results_blk rfl _ g2 28 _ _ rfl hR10 Tryd.underlying28 rfl HSf.out) rfl ?_
                    rw [← HL.out]
                    exact tk_yes HF2.out hK10 hFA10 (fun q hq => (HF6.out q hq).1)
              · have HFo := Lib.hid (frPk_form (t := t) (d := d) H22.out HT.out (.inl (fun h => hx1 (HX0.out.1 h))))
                rw [decide_eq_true hx1] at hxx
                clear hx1
                go_wp2
                rw [← W7.out]
                exact ⟨rfl, tk_no HFo.out (by omega) HK7.out rfl⟩
            · skip
              refine (fTt_no r p 22 d t er _ HRe0.out HT.out her).mono ?_
              rintro e w6 ⟨h2, hk6⟩
              unfold Throw at h2
              subst h2
              exact ⟨rfl, tk_no (frPk_text H22.out HT.out her) her (HK.out.trans hk6 (fun i hi => .inr (by have := List.mem_singleton.1 hi; have := HrN.out; omega))) rfl⟩
  · skip
    refine (fTn_no r p 0 1 _ HRe3.out (by omega) (by omega) (by rw [HP.out]; omega)).mono ?_
    rintro e w4 ⟨h2, hk4⟩
    unfold Throw at h2
    subst h2
    exact ⟨rfl, H1.out (by omega) _ (HK3.out.trans hk4 (fun i hi => .inr (by have := List.mem_singleton.1 hi; have := HrN.out; omega)))⟩
end Go.Proofs.YtibcjbelcplpjaaDoor
