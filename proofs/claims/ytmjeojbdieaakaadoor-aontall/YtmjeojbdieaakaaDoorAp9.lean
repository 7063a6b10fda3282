/-
  Contract of layer 11 (aont): the key that slices tell. No statement of the seed is proved here.
-/
import Derived.Test.YtmjeojbdieaakaaDoorAp3
import Derived.Test.YtmjeojbdieaakaaDoorAp6
import Derived.Test.YtmjeojbdieaakaaDoorAo8
import Derived.Test.YtmjeojbdieaakaaDoorPb
namespace Go.Proofs.YtmjeojbdieaakaaDoor
open Go.RowKit
set_option linter.unusedVariables false

section
variable {P : Program} {o : Oper} {ev : Operand → Value}
theorem pure_cell (ty : TypeId) (x : Operand) (ho : o.op = .load ty x) (a : Addr) (u : Value) (hx : ev x = .pointer (some a)) (hagg : ∀ w, (isAgg ty).run P w = .ok false w) (w : World) (hc : w.cell? a = some u) :
    (execOp ev o).run P w = .ok (.value u) w := by
  unfold execOp
  simp only [ho, hx]
  simp [Instr.loadAt, Instr.sureAddr, loadVar, hagg, hc]
theorem pure_arr (ty e : TypeId) (m : Nat) (x : Operand) (ho : o.op = .sliceToArrayPointer ty x) (a : Addr) (n c : Nat) (hx : ev x = .slice (some a) n c) (hu : P.underlying ty = some (.array m e)) (hm : m ≤ n) (w : World) :
    (execOp ev o).run P w = .ok (.value (.pointer (some a))) w := by
  unfold execOp
  simp only [ho, hx]
  simp [Instr.arrayAt, run_underlying hu, show ¬ n < m by omega]
end

set_option maxRecDepth 100000 in
set_option maxHeartbeats 4000000 in
theorem aKey_arg (cl : Int) (A : Option Addr) (n c : Nat) (ls : List (List UInt8)) (w : World) (hr : RdL w A n c ls) (h : ¬ (isCls cl = true ∧ 1 ≤ n ∧ n ≤ 255)) :
    Calls Tryd.prog 13 #[.int .i64 cl, .slice A n c] w (KeyERet (aKeyV cl ls) (joinE cl ls) w) := by
  have hl := hr.len
  have hE : joinE cl ls = 14 := joinE_arg (by rw [hl]; exact h)
  have HK : Hid (aKeyV cl ls = List.replicate 32 0) := Lib.hid (by unfold aKeyV; rw [if_neg (by rw [hE]; decide)])
  have HSv : Hid (sizV cl (n : Int) = .tuple #[.int .i64 0, .int .i64 14]) := Lib.hid (sizV_no (fun g => h ⟨g.1, by omega, by omega⟩))
  rw [HK.out, hE]
  have b1 := hr.cap
  have b2 := hr.most
  unfold maxLen at b2
  have HB0 := Lib.hid builtKey
  clear hE hr hl h
  go_enter Tryd.func13, Tryd.ntmps13
  go_wp2_with (with_reducible change wpList _ _ _ (⟨_, Op.alloc _, _, _, _, _⟩ :: _) _ _; refine wpList_alloc_blk rfl 24 rfl _ zero32 ?_)
  intro w1 hR1 hk1 hs1
  go_wp2_with (first
    | (go_at_call 21; refine (aSiz_any cl (n : Int) _).mono ?_; rw [HSv.out]; rintro e w' ⟨rfl, rfl⟩)
    | (with_reducible change wpList _ _ _ (⟨_, Op.build _ _, _, _, _, _⟩ :: _) _ _; refine Great.wpList_buildTo rfl 24 _ rfl _ rfl (zb 32).toArray (by simpa [Act.eval, Act.put] using HB0.out) ?_)
    | (with_reducible change wpList _ _ _ (⟨_, Op.store _ _ _, _, _, _, _⟩ :: _) _ _; refine wpList_store_blk rfl 24 (.tmp 4) (.tmp 20) rfl w.heap.size (zb 32) rfl rfl 24 (zb 32) hR1 zb_size rfl zb_one ?_))
  intro w3 hR3 hk3 hs3
  go_wp2
  refine bodyPost_ret (results_blk2 rfl _ w.heap.size 24 _ _ _ rfl rfl hR3 arr32b rfl zb_size) rfl ?_
  exact ⟨rfl, hk1.trans hk3 (by simp)⟩

set_option maxRecDepth 100000 in
set_option maxHeartbeats 4000000 in
theorem aKey_ok (C : Nat) (A : Option Addr) (n c : Nat) (ls : List (List UInt8)) (w : World) (hr : RdL w A n c ls) (hgl : Glob w) (hcl : isCls (C : Int) = true) (hn1 : 1 ≤ n) (hn2 : n ≤ 255) :
    Calls Tryd.prog 13 #[.int .i64 (C : Int), .slice A n c] w (KeyERet (aKeyV (C : Int) ls) (joinE (C : Int) ls) w) := by
  have hl := hr.len
  have hC : C ≤ 1024 := by have := isCls_cases hcl; omega
  obtain ⟨S, hS⟩ : ∃ S, sizN C n = S := ⟨_, rfl⟩
  have hS1 : 1 ≤ S := by
    have h1 := (sizN_mul (c := C) hn1).1
    rw [hS] at h1
    rcases Nat.eq_zero_or_pos S with h0 | h0
    · rw [h0, Nat.mul_zero] at h1; omega
    · exact h0
  have HSv : Hid (sizV (C : Int) (n : Int) = .tuple #[.int .i64 (S : Int), .int .i64 0]) := Lib.hid (by rw [sizV_yes hcl (by omega) (by omega), Int.toNat_natCast, Int.toNat_natCast, hS])
  have HB0 := Lib.hid builtKey
  have HForm : Hid (∀ l, l ∈ ls → l.length ≠ S → joinE (C : Int) ls = 2 ∧ aKeyV (C : Int) ls = List.replicate 32 0) := Lib.hid (fun l h1 h2 => by
    have hE : joinE (C : Int) ls = 2 := joinE_form ⟨hcl, by omega, by omega⟩ ⟨l, h1, by rw [Int.toNat_natCast, hl, hS]; exact h2⟩
    refine ⟨hE, ?_⟩
    unfold aKeyV
    rw [if_neg (by rw [hE]; decide)])
  have HOk : Hid ((∀ l, l ∈ ls → l.length = S) → joinE (C : Int) ls = 0 ∧ aKeyV (C : Int) ls = keyL C ls.flatten ∧ C + 48 ≤ ls.flatten.length ∧ ls.flatten.length ≤ 2000) := Lib.hid (fun h1 => by
    have hE : joinE (C : Int) ls = 0 := joinE_ok ⟨hcl, by omega, by omega⟩ (by rw [Int.toNat_natCast, hl, hS]; exact h1)
    obtain ⟨C', e1, _, _, _, _, _, h6, h7⟩ := join_facts hE
    obtain rfl : C = C' := by omega
    refine ⟨hE, ?_, h6, h7⟩
    unfold aKeyV
    rw [if_pos hE, Int.toNat_natCast])
  have HM : Hid (∀ k l, ls[k]? = some l → l ∈ ls) := Lib.hid (fun k l h => List.mem_of_getElem? h)
  obtain ⟨E, hE⟩ : ∃ E, joinE (C : Int) ls = E := ⟨_, rfl⟩
  obtain ⟨V, hV⟩ : ∃ V, aKeyV (C : Int) ls = V := ⟨_, rfl⟩
  rw [hE, hV] at HForm HOk ⊢
  have HR := Lib.hid hr
  have HGL := Lib.hid hgl
  have HL := Lib.hid hl
  have b1 := hr.cap
  have b2 := hr.most
  unfold maxLen at b2
  clear hE hV hr hgl hl hcl hS
  go_enter Tryd.func13, Tryd.ntmps13
  go_wp2_with (with_reducible change wpList _ _ _ (⟨_, Op.alloc _, _, _, _, _⟩ :: _) _ _; refine wpList_alloc_blk rfl 24 rfl _ zero32 ?_)
  intro w1 hR1 hk1 hs1
  have HR1 := Lib.hid (HR.out.kept0 hk1)
  have HG1 := Lib.hid (HGL.out.kept0 hk1)
  have HK1 := Lib.hid hk1
  have HB1 := Lib.hid hR1
  obtain ⟨r, hrr⟩ : ∃ r, r = w.heap.size := ⟨_, rfl⟩
  rw [← hrr] at HB1 hs1 ⊢
  have lr : w.heap.size ≤ r := by omega
  have hs1' : w1.heap.size = r + 1 := hs1
  clear hk1 hR1 hrr hs1 HR HGL
  go_wp2_with (go_at_call 21; refine (aSiz_any (C : Int) (n : Int) _).mono ?_; rw [HSv.out]; rintro e w' ⟨rfl, rfl⟩)
  go_loopw [24] (fun i wr => ∃ k : Nat, k ≤ n ∧ i = .int .i64 (k : Int) ∧ w1 = wr ∧ Hid (∀ j l, j < k → ls[j]? = some l → l.length = S)) (fun i _ => n - (intOf i).toNat)
  case atStart => exact ⟨0, by omega, rfl, rfl, Lib.hid (fun j l h => absurd h (by omega))⟩
  case round =>
    obtain ⟨k, hk, rfl, rfl, H⟩ := hrel
    by_cases hlt : k < n
    · obtain ⟨b, off, Ak, nk, ck, l, rfl, hbl, c0, g0, hrk⟩ := HR1.out.at_ hlt
      have hnk := hrk.len
      have q1 := hrk.cap
      have q2 := hrk.most
      unfold maxLen at q2
      by_cases hok : nk = S
      · subst hok
        have H1 : Hid (∀ j m, j < k + 1 → ls[j]? = some m → m.length = nk) := Lib.hid (fun j m h1 h2 => by
          rcases Nat.lt_or_ge j k with h3 | h3
          · exact H.out j m h3 h2
          · obtain rfl : j = k := by omega
            rw [g0] at h2
            injection h2 with h2
            rw [← h2]; exact hnk)
        clear H hnk hrk g0
        go_wp2
        go_roundw
        case rel => exact ⟨k + 1, by omega, by go_num, trivial, H1⟩
        case measure => simp [intOf]; omega
      · have HF := Lib.hid (HForm.out l (HM.out k l g0) (by rw [hnk]; exact hok))
        have hne : ((nk : Int) != (S : Int)) = true := by simp; omega
        clear H hnk hrk g0
        go_wp2_with (first
          | (with_reducible change wpList _ _ _ (⟨_, Op.build _ _, _, _, _, _⟩ :: _) _ _; refine Great.wpList_buildTo rfl 24 _ rfl _ rfl (zb 32).toArray (by simpa [Act.eval, Act.put] using HB0.out) ?_)
          | (with_reducible change wpList _ _ _ (⟨_, Op.store _ _ _, _, _, _, _⟩ :: _) _ _; refine wpList_store_blk rfl 24 (.tmp 4) (.tmp 32) rfl r (zb 32) rfl rfl 24 (zb 32) HB1.out zb_size rfl zb_one ?_))
        intro w3 hR3 hk3 hs3
        go_wp2
        refine bodyPost_ret (results_blk2 rfl _ r 24 _ _ _ rfl rfl hR3 arr32b rfl zb_size) rfl ?_
        rw [HF.out.1, HF.out.2]
        exact ⟨rfl, HK1.out.trans hk3 (fun i hi => .inr (by have := List.mem_singleton.1 hi; omega))⟩
    · have hAll : ∀ l, l ∈ ls → l.length = S := fun l hm => by
        obtain ⟨j, hj⟩ := List.getElem?_of_mem hm
        exact H.out j l (by have := (List.getElem?_eq_some_iff.1 hj).1; have := HL.out; omega) hj
      obtain ⟨hE0, hV0, hF1, hF2⟩ := HOk.out hAll
      have HE := Lib.hid hE0
      have HV := Lib.hid hV0
      have HP := Lib.hid (fun w hr => aPar_any C A n c ls w hr hn1 (by omega) (fun l hm => by rw [hAll l hm]; omega) hC hF1 hF2)
      clear H hAll hE0 hV0
      go_wp2_with fail
      refine (HP.out _ HR1.out).mono ?_
      obtain ⟨F, hF⟩ : ∃ F, ls.flatten = F := ⟨_, rfl⟩
      rw [hF] at HV hF1 hF2 ⊢
      rintro e w2 ⟨v, rfl, hP2, hk2⟩
      obtain ⟨A1, A2, A3, c1, c2, c3, rfl, hr1, hr2, hr3, l1, l2, l3⟩ := hP2.val
      obtain ⟨L, hLd⟩ : ∃ L, (F.drop (C + 16)).take 32 = L := ⟨_, rfl⟩
      obtain ⟨D, hD⟩ : ∃ D, shaSum (F.take (C + 16)) = D := ⟨_, rfl⟩
      obtain ⟨X, hX⟩ : ∃ X, xorL D L = X := ⟨_, rfl⟩
      have HVX : Hid (V = X) := Lib.hid (by rw [HV.out, ← hX, ← hD, ← hLd]; unfold keyL; rfl)
      rw [hLd] at hr2
      have HLl := Lib.hid hr2.len
      have HDl : Hid (D.length = 32) := Lib.hid (by rw [← hD]; exact shaSum_length _)
      have HXl : Hid (X.length = 32) := Lib.hid (by rw [← hX]; unfold xorL; rw [List.length_zipWith, HDl.out, HLl.out]; rfl)
      have HD := Lib.hid hD
      have HX := Lib.hid hX
      have Hsl := Lib.hid (size_of_len (P := Tryd.prog) (ty := 24) size32 HLl.out)
      have Hsx := Lib.hid (size_of_len (P := Tryd.prog) (ty := 24) size32 HXl.out)
      have Hox := Lib.hid (bvs_one X)
      have Hzx : Hid ((zb 32).length = (bvs X).length) := Lib.hid (by rw [zb_length, bvs_length, HXl.out])
      obtain ⟨b2', o2, rfl, hb2, hcl2⟩ := hr2.at_ (by omega)
      have lb2 := l2 _ rfl
      have lb3 : r < b2' := by have : w1.heap.size ≤ b2' := lb2; omega
      have HRng : Hid (w2.rangeAt b2' o2 (bvs L)) := Lib.hid (fun j v hv => by
        have hj : j < L.length := by have := (List.getElem?_eq_some_iff.1 hv).1; rwa [bvs_length] at this
        rw [hcl2 j hj, ← hv, bvs_get L j hj])
      have Hr1 := Lib.hid hr1
      have HK2 := Lib.hid hk2
      have d1 := hr1.cap
      have d2 := hr1.most
      unfold maxLen at d2
      have d3 := hr2.cap
      have d4 := hr2.most
      unfold maxLen at d4
      have HB2 := Lib.hid (HB1.out.kept0 hk2)
      have HG2 := Lib.hid (HG1.out.kept0 hk2)
      clear hP2 hr1 hr2 hr3 l1 l2 l3 hcl2 lb2 hLd hD hX hF hk2 HV HP HForm HOk HM
      go_wp2_with (with_reducible change wpList _ _ _ (⟨_, Op.alloc _, _, _, _, _⟩ :: _) _ _; refine wpList_alloc_blk rfl 69 rfl _ zeroPt ?_)
      intro w3 hQ3 hk3 hs3
      obtain ⟨p, hp⟩ : ∃ p, p = w2.heap.size := ⟨_, rfl⟩
      rw [← hp] at hQ3 hs3 ⊢
      have HK3 := Lib.hid hk3
      have hpb : b2' ≠ p := by omega
      have lp2 : w2.heap.size ≤ p := by omega
      have hrl : r < w2.heap.size := HB2.out.lt
      have hrp : r ≠ p := by omega
      have lp : w1.heap.size ≤ p := by have := HK2.out.size; omega
      clear hk3 hp
      go_wp2_with (with_reducible change wpList _ _ _ (⟨_, Op.store _ _ _, _, _, _, _⟩ :: _) _ _; refine storePt rfl (.tmp 10) (.tmp 36) rfl p _ _ _ _ _ _ _ _ _ rfl rfl hQ3 ?_)
      intro w4 hQ4 hk4 hs4
      have HQ4 := Lib.hid hQ4
      have HK4 : Hid (Kept [] w2 w4) := Lib.hid (HK3.out.trans hk4 (fun i hi => .inr (by have := List.mem_singleton.1 hi; omega)))
      have HB4 := Lib.hid (HB2.out.kept0 HK4.out)
      have HG4 := Lib.hid (HG2.out.kept0 HK4.out)
      have Hr4 := Lib.hid (Hr1.out.kept0 HK4.out)
      have HRng4 : Hid (w4.rangeAt b2' o2 (bvs L)) := Lib.hid (fun j v hv => (HK4.out.cell (p := ⟨b2', o2 + j, none⟩) hb2 (by simp)).trans (HRng.out j v hv))
      have SK : Hid (∀ W, Kept [r] w4 W → W.cell? ⟨p, 0, none⟩ = some (.slice A1 (C + 16) c1) ∧ W.cell? ⟨p, 1, none⟩ = some (.slice (some ⟨b2', o2, none⟩) 32 c2) ∧ W.rangeAt b2' o2 (bvs L)) := Lib.hid (fun W h => by
        have hQ := HQ4.out.kept h (by simpa using hrp.symm)
        refine ⟨hQ.cell 0, hQ.cell 1, fun j v hv => (h.cell (p := ⟨b2', o2 + j, none⟩) (Nat.lt_of_lt_of_le hb2 HK4.out.size) ?_).trans (HRng4.out j v hv)⟩
        simp only [List.mem_singleton]
        omega)
      clear hQ4 hk4 hs4 hQ3 hs3 HQ4 HRng HRng4 HK3 HB2 HG2 Hr1 HB1 HG1
      go_wp2
      have hHeld := SK.out _ (Kept.refl [r] w4).drew
      refine wp_region_begin (fun W => W.cell? ⟨p, 0, none⟩ = some (.slice A1 (C + 16) c1) ∧ W.cell? ⟨p, 1, none⟩ = some (.slice (some ⟨b2', o2, none⟩) 32 c2) ∧ W.rangeAt b2' o2 (bvs L)) (by kernel_rfl) ?_
      refine held_pureD 0 37 (.pointer (some ⟨p, 1, none⟩)) rfl rfl (by kernel_rfl) (by kernel_rfl) (by kernel_rfl) rfl (fun w _ => rfl) hHeld ?_
      simp only [Act.put, List.setIfInBounds_toArray, List.set_cons_succ, List.set_cons_zero]
      refine held_pureD 1 38 (Value.slice (some ⟨b2', o2, none⟩) 32 c2) rfl rfl (by kernel_rfl) (by kernel_rfl) (by kernel_rfl) rfl (fun w h => pure_cell 22 (.tmp 37) rfl ⟨p, 1, none⟩ _ rfl Tryd.isAgg22 w h.2.1) hHeld ?_
      simp only [Act.put, List.setIfInBounds_toArray, List.set_cons_succ, List.set_cons_zero]
      refine held_pureD 2 39 (Value.pointer (some ⟨b2', o2, none⟩)) rfl rfl (by kernel_rfl) (by kernel_rfl) (by kernel_rfl) rfl (fun w _ => pure_arr 24 5 32 (.tmp 38) rfl ⟨b2', o2, none⟩ 32 c2 rfl arr32b (Nat.le_refl _) w) hHeld ?_
      simp only [Act.put, List.setIfInBounds_toArray, List.set_cons_succ, List.set_cons_zero]
      refine held_loadD 3 40 rfl rfl (by kernel_rfl) (by kernel_rfl) (by kernel_rfl) rfl 24 (.tmp 39) rfl b2' o2 rfl (bvs L) _ (fun w h => h.2.2) arr32b rfl Hsl.out hHeld ?_
      simp only [Act.put, List.setIfInBounds_toArray, List.set_cons_succ, List.set_cons_zero]
      refine held_pureD 4 41 (.pointer (some ⟨p, 0, none⟩)) rfl rfl (by kernel_rfl) (by kernel_rfl) (by kernel_rfl) rfl (fun w _ => rfl) hHeld ?_
      simp only [Act.put, List.setIfInBounds_toArray, List.set_cons_succ, List.set_cons_zero]
      refine held_pureD 5 42 (Value.slice A1 (C + 16) c1) rfl rfl (by kernel_rfl) (by kernel_rfl) (by kernel_rfl) rfl (fun w h => pure_cell 22 (.tmp 41) rfl ⟨p, 0, none⟩ _ rfl Tryd.isAgg22 w h.1) hHeld ?_
      simp only [Act.put, List.setIfInBounds_toArray, List.set_cons_succ, List.set_cons_zero]
      refine held_one 6 (by kernel_rfl) rfl ?_
      go_wp2_with fail
      refine (sum_any A1 (C + 16) c1 (F.take (C + 16)) _ Hr4.out.drew (HG4.out.kept0 (Kept.refl [] w4).drew) (by omega)).mono ?_
      rw [HD.out]
      rintro e w5 ⟨rfl, hk5⟩
      have hK5 : Kept [] w4 w5 := (Kept.refl [] w4).drew.andThen hk5
      clear hk5
      go_wp2
      change _ ∧ wpAnyH _ _ _ _ _ _ _ _ _
      refine ⟨SK.out _ (hK5.mono (by simp)), ?_⟩
      refine held_one 7 (by kernel_rfl) rfl ?_
      go_wp2_with fail
      refine (aMix_any L D _ HLl.out HDl.out).mono ?_
      rw [HX.out]
      rintro e w6 ⟨rfl, hk6⟩
      have hK6 : Kept [] w4 w6 := hK5.andThen hk6
      clear hk6 hK5
      go_wp2
      change _ ∧ wpAnyH _ _ _ _ _ _ _ _ _
      refine ⟨SK.out _ (hK6.mono (by simp)), ?_⟩
      have hB6 := HB4.out.kept0 hK6
      refine held_one 8 (by kernel_rfl) rfl ?_
      refine wpList_store_blk rfl 24 (.tmp 4) (.tmp 44) rfl r (bvs X) rfl rfl 24 (zb 32) hB6 Hsx.out Hzx.out Hox.out ?_
      intro w7 hB7 hk7 hs7
      have hK7 : Kept [r] w4 w7 := (hK6.mono (by simp)).trans hk7 (by simp)
      clear hk7 hs7 hB6 hK6
      go_wp2
      change _ ∧ wpAnyH _ _ _ _ _ _ _ _ _
      refine ⟨SK.out _ hK7, ?_⟩
      refine held_one 9 (by kernel_rfl) rfl ?_
      go_wp2
      change _ ∧ wpAnyH _ _ _ _ _ _ _ _ _
      refine ⟨SK.out _ hK7, ?_⟩
      refine held_done (by kernel_rfl) ?_
      have hKK : Kept [] w w7 := ((HK1.out.andThen HK2.out).andThen HK4.out).trans hK7 (fun i hi => .inr (by have := List.mem_singleton.1 hi; omega))
      clear hHeld hK7
      go_wp2
      refine bodyPost_ret (results_blk2 rfl _ r 24 _ _ _ rfl rfl hB7 arr32b rfl Hsx.out) rfl ?_
      rw [HVX.out, HE.out]
      exact ⟨rfl, hKK⟩
theorem aKey_any (cl : Int) (A : Option Addr) (n c : Nat) (ls : List (List UInt8)) (w : World) (hr : RdL w A n c ls) (hgl : Glob w) :
    Calls Tryd.prog 13 #[.int .i64 cl, .slice A n c] w (KeyERet (aKeyV cl ls) (joinE cl ls) w) := by
  by_cases h : isCls cl = true ∧ 1 ≤ n ∧ n ≤ 255
  · obtain ⟨C, rfl⟩ : ∃ C : Nat, cl = (C : Int) := ⟨cl.toNat, by have := isCls_cases h.1; omega⟩
    exact aKey_ok C A n c ls w hr hgl h.1 h.2.1 h.2.2
  · exact aKey_arg cl A n c ls w hr h
end Go.Proofs.YtmjeojbdieaakaaDoor
