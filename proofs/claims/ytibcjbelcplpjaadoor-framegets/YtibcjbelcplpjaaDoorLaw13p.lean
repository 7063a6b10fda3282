/-
  The walk of a law of layer 13: any frame has the bytes that the document says, over whatever contracts the program's functions keep. Written by a script. No statement of the seed is proved here.
-/
import Derived.Test.YtibcjbelcplpjaaDoorPd
import Derived.Test.YtibcjbelcplpjaaDoorLaw13c
import Derived.Test.YtibcjbelcplpjaaDoorFrJ
import Derived.Test.YtibcjbelcplpjaaDoorPe
namespace Go.Proofs.YtibcjbelcplpjaaDoor
open Go.RowKit
set_option linter.unusedVariables false

set_option maxRecDepth 100000 in
set_option maxHeartbeats 16000000 in
theorem puts13_walk {G : World → Prop} (HF : FrHas G) (HN : NameHas G) (key : List UInt8) (f : Fr) (A : Option Addr) (n c : Nat) (w : World) (hgl : G w) (hkl : key.length = 32) (h : FrAt w f A n c) :
    Calls Tryd.prog 3 #[.agg (bvs key).toArray, .agg (frc f A n c).toArray] w fun e w' => e = .returned (.bool true) ∧ Kept [] w w' := by
  obtain ⟨w1, hw1⟩ : ∃ w1, w1 = w.alloc (.cells (bvs key).toArray 23) := ⟨_, rfl⟩
  obtain ⟨w2, hw2⟩ : ∃ w2, w2 = w1.alloc (.cells (frc f A n c).toArray 28) := ⟨_, rfl⟩
  obtain ⟨a, ha⟩ : ∃ a, a = w.heap.size := ⟨_, rfl⟩
  obtain ⟨g, hg⟩ : ∃ g, g = w1.heap.size := ⟨_, rfl⟩
  have hA : Blk w1 a 23 (bvs key) := by rw [hw1, ha]; exact Blk.new w 23 (bvs key)
  have hk1 : Kept [] w w1 := by rw [hw1]; exact (Kept.refl [] w).alloc _
  have hk2 : Kept [] w1 w2 := by rw [hw2]; exact (Kept.refl [] w1).alloc _
  have hG : FrB w2 g f A n c := by rw [hw2, hg]; exact FrB.new w1 f A n c h.obj
  have HA := Lib.hid (hA.kept0 hk2)
  have HGb := Lib.hid hG
  have HK2 := Lib.hid (hk1.andThen hk2)
  have HFA := Lib.hid h
  have HGl := Lib.hid hgl
  have Hsk := Lib.hid (size_of_len (P := Tryd.prog) (ty := 23) size32 hkl)
  have Hsf : Hid (∀ B m d, (Tryd.prog.info? 28).map (·.size) = some (frc f B m d).length) := Lib.hid (fun B m d => frc_size h.obj)
  have Hon : Hid (∀ B m d, ∀ v ∈ frc f B m d, v.oneCell' = true) := Lib.hid (fun B m d => frc_one f B m d)
  have Hzl : Hid (∀ B m d, (frc fr0 none 0 0).length = (frc f B m d).length) := Lib.hid (fun B m d => by rw [frc_length (f := fr0) (by unfold fr0; simp), frc_length h.obj])
  have Hkl := Lib.hid hkl
  have W1 := Lib.hid hw1
  have W2 := Lib.hid hw2
  have A0 := Lib.hid ha
  have G0 := Lib.hid hg
  have HW := Lib.hid (wakes13_any HN w2 (HN.kept hgl HK2.out))
  have HFh := Lib.hid HF
  have b1 := h.piece.cap
  have b2 := h.piece.most
  unfold maxLen at b2
  obtain ⟨L, hL⟩ : ∃ L, frc f A n c = L := ⟨_, rfl⟩
  rw [hL] at W2 ⊢
  have HL := Lib.hid hL
  have Hs1 := Lib.hid (Hsf.out A n c)
  rw [hL] at Hs1
  have SKa : Hid (∀ W, Kept [] w2 W → Blk W a 23 (bvs key)) := Lib.hid (fun W hk => HA.out.kept0 hk)
  have SKg : Hid (∀ W, Kept [] w2 W → Blk W g 28 L) := Lib.hid (fun W hk => by rw [← HL.out]; exact (HGb.out.kept0 hk).blk)
  clear hw1 hw2 ha hg hA hk1 hk2 hG h hkl hL hgl HF HN
  go_enter Tryd.func3, Tryd.ntmps3
  go_wp2_with (first
    | (with_reducible change wpList _ _ _ (⟨_, Op.box _ (.tmp 0), _, _, _, _⟩ :: _) _ _; refine Great.wpList_boxTo rfl 23 _ rfl _ rfl a A0.out.symm (bvs key).toArray rfl ?_; rw [← W1.out])
    | (with_reducible change wpList _ _ _ (⟨_, Op.box _ (.tmp 1), _, _, _, _⟩ :: _) _ _; refine Great.wpList_boxTo rfl 28 _ rfl _ rfl g G0.out.symm L.toArray rfl ?_; rw [← W2.out]))
  refine HW.out.mono ?_
  rintro e w3 ⟨rfl, hk3⟩
  have d5 := (HGb.out.kept0 hk3).piece
  have HK23 := Lib.hid hk3
  clear hk3
  by_cases hb : 2000 < n
  · go_wp2
    go_ret
    exact ⟨rfl, HK2.out.andThen HK23.out⟩
  have hb2 : ¬ 2000 < n := hb
  have hG3 := SKg.out _ HK23.out
  go_wp2_with (with_reducible change wpList _ _ _ (⟨_, Op.load 28 (.tmp 3), _, _, _, _⟩ :: _) _ _; refine wpList_load_blk rfl 28 (.tmp 3) rfl g rfl 28 L _ hG3 Tryd.underlying28 rfl Hs1.out ?_)
  rw [← HL.out]
  refine (cpd_any f A n c _ (HFA.out.kept0 (HK2.out.andThen HK23.out)) (by omega)).mono ?_
  rintro e w4 ⟨A4, c4, rfl, hf4, hk4, hb4⟩
  have HF4 := Lib.hid hf4
  have HK24 := Lib.hid (HK23.out.andThen hk4)
  obtain ⟨L4, hL4⟩ : ∃ L4, frc f A4 n c4 = L4 := ⟨_, rfl⟩
  rw [hL4, HL.out]
  have HL4 := Lib.hid hL4
  have Hs4 := Lib.hid (Hsf.out A4 n c4)
  have Ho4 := Lib.hid (Hon.out A4 n c4)
  have Hl4 := Lib.hid (Hzl.out A4 n c4)
  rw [hL4] at Hs4 Ho4 Hl4
  clear hf4 hk4 hb4 hL4 HK23 d5 hG3
  go_wp2_with (with_reducible change wpList _ _ _ (⟨_, Op.alloc _, _, _, _, _⟩ :: _) _ _; refine wpList_alloc_blk rfl 28 rfl _ zeroFr ?_)
  intro w5 hO5 hk5 hs5
  obtain ⟨o, hoo⟩ : ∃ o, o = w4.heap.size := ⟨_, rfl⟩
  rw [← hoo] at hO5 ⊢
  have Ho : Hid (w2.heap.size ≤ o) := Lib.hid (by have := HK24.out.size; omega)
  refine wpList_store_blk rfl 28 (.tmp 5) (.tmp 19) rfl o L4 rfl rfl 28 _ hO5 Hs4.out Hl4.out Ho4.out ?_
  intro w6 hO6 hk6 hs6
  have HO6 := Lib.hid hO6
  have HK26 : Hid (Kept [] w2 w6) := Lib.hid ((HK24.out.andThen hk5).trans hk6 (fun i hi => .inr (by have := List.mem_singleton.1 hi; have := Ho.out; omega)))
  have HF6 : Hid (FrAt w6 f A4 n c4) := Lib.hid ((HF4.out.kept0 hk5).kept hk6 (fun hp => by
    obtain ⟨bb, off, e, hbb, _⟩ := HF4.out.piece.at_ hp
    subst e
    intro q hq hm
    injection hq with hq
    subst hq
    have := List.mem_singleton.1 hm
    simp at this
    omega))
  clear hO5 hk5 hs5 hO6 hk6 hs6 hoo HF4 HK24
  have hA6 := SKa.out _ HK26.out
  have hO6 := HO6.out
  go_wp2_with (first
    | (with_reducible change wpList _ _ _ (⟨_, Op.load 23 (.tmp 2), _, _, _, _⟩ :: _) _ _; refine wpList_load_blk rfl 23 (.tmp 2) rfl a rfl 23 _ _ hA6 arr32b rfl Hsk.out ?_)
    | (with_reducible change wpList _ _ _ (⟨_, Op.load 28 (.tmp 5), _, _, _, _⟩ :: _) _ _; refine wpList_load_blk rfl 28 (.tmp 5) rfl o rfl 28 L4 _ hO6 Tryd.underlying28 rfl Hs4.out ?_))
  rw [← HL4.out]
  refine (HFh.out.put key f A4 n c4 _ Hkl.out HF6.out (by omega) (HFh.out.kept HGl.out (HK2.out.andThen HK26.out))).mono ?_
  obtain ⟨er, her⟩ : ∃ er, (frPut key f).2 = er := ⟨_, rfl⟩
  obtain ⟨p, hp⟩ : ∃ p, (frPut key f).1 = p := ⟨_, rfl⟩
  have Hpl : Hid (p.length ≤ 1200) := Lib.hid (by rw [← hp]; exact frPut_len HFA.out.obj)
  rw [her, hp]
  have Her := Lib.hid her
  have Hp := Lib.hid hp
  rintro e w7 ⟨v7, rfl, ho7, hk7, hf7⟩
  obtain ⟨A7, n7, c7, rfl, hr7, _⟩ := ho7.form
  rw [HL4.out]
  have Hr7 := Lib.hid hr7
  have Hn7 : Hid (n7 ≤ 1200) := Lib.hid (by rw [← hr7.len]; exact Hpl.out)
  have HK67 := Lib.hid hk7
  have HK27 := Lib.hid (HK26.out.andThen hk7)
  clear ho7 hk7 hf7 hr7 her hp hA6 hO6
  have hA7 := SKa.out _ HK27.out
  have hG7 := SKg.out _ HK27.out
  go_wp2_with (first
    | (with_reducible change wpList _ _ _ (⟨_, Op.load 23 (.tmp 2), _, _, _, _⟩ :: _) _ _; refine wpList_load_blk rfl 23 (.tmp 2) rfl a rfl 23 _ _ hA7 arr32b rfl Hsk.out ?_)
    | (with_reducible change wpList _ _ _ (⟨_, Op.load 28 (.tmp 3), _, _, _, _⟩ :: _) _ _; refine wpList_load_blk rfl 28 (.tmp 3) rfl g rfl 28 L _ hG7 Tryd.underlying28 rfl Hs1.out ?_))
  rw [← HL.out]
  refine (rPt_any key f A n c _ Hkl.out (HFA.out.kept0 (HK2.out.andThen HK27.out))).mono ?_
  rw [Her.out, Hp.out]
  rintro e w8 ⟨v8, rfl, ho8, hk8, hf8⟩
  obtain ⟨A8, n8, c8, rfl, hr8, _⟩ := ho8.form
  rw [HL.out]
  have Hr8 := Lib.hid hr8
  have HK28 := Lib.hid (HK27.out.andThen hk8)
  have HK68 := Lib.hid (HK67.out.andThen hk8)
  have Hr78 := Lib.hid (Hr7.out.kept0 hk8)
  have Hne : Hid (((er : Int) != (er : Int)) = false) := Lib.hid (by simp)
  clear ho8 hk8 hf8 hr8 hA7 hG7 HK27 HK67
  have HFA8 := Lib.hid (HFA.out.kept0 (HK2.out.andThen HK28.out))
  have HF8 := Lib.hid (HF6.out.kept0 HK68.out)
  have SK : Hid (∀ W, Kept [] w8 W → W.rangeAt o 0 L4 ∧ W.rangeAt g 0 L) := Lib.hid (fun W hk => ⟨(HO6.out.kept0 (HK68.out.andThen hk)).rangeOf, (SKg.out _ (HK28.out.andThen hk)).rangeOf⟩)
  have HFs : Hid (∀ W, FrAt W f A4 n c4 → FrAt W f A n c → Calls Tryd.prog 12 #[.agg L4.toArray, .agg L.toArray] W fun e w' => e = .returned (.bool true) ∧ Kept [] W w') := Lib.hid (by
    rw [← HL4.out, ← HL.out]
    intro W h1 h2
    have := rFs_any f f A4 A n c4 n c W h1 h2
    rw [frEq_refl] at this
    exact this)
  obtain ⟨rb, hrb⟩ : ∃ rb, frRight f = rb := ⟨_, rfl⟩
  have HRb := Lib.hid hrb
  have HRig : Hid (∀ W, FrAt W f A n c → Calls Tryd.prog 13 #[.agg L.toArray] W fun e w' => e = .returned (.bool rb) ∧ Kept [] W w') := Lib.hid (by rw [← HL.out, ← hrb]; exact fun W h => HFh.out.right f A n c W h (by omega))
  have HRr : Hid (∀ W, FrAt W f A n c → Calls Tryd.prog 14 #[.agg L.toArray] W fun e w' => e = .returned (.bool rb) ∧ Kept [] W w') := Lib.hid (by rw [← HL.out, ← hrb]; exact fun W h => rRi_any f A n c W h)
  have Hrr : Hid ((rb != rb) = false) := Lib.hid (by simp)
  clear hrb
  go_wp2
  have hHeld := SK.out _ (Kept.refl [] w8).drew
  refine wp_region_begin (fun W => W.rangeAt o 0 L4 ∧ W.rangeAt g 0 L) (by kernel_rfl) ?_
  refine held_pureD 0 32 (Value.slice A7 n7 c7) rfl rfl (by kernel_rfl) (by kernel_rfl) (by kernel_rfl) rfl (fun w hS => rfl) hHeld ?_
  simp only [Act.put, List.setIfInBounds_toArray, List.set_cons_succ, List.set_cons_zero]
  refine held_pureD 1 33 (Value.slice A8 n8 c8) rfl rfl (by kernel_rfl) (by kernel_rfl) (by kernel_rfl) rfl (fun w hS => rfl) hHeld ?_
  simp only [Act.put, List.setIfInBounds_toArray, List.set_cons_succ, List.set_cons_zero]
  refine held_one 2 (by kernel_rfl) rfl ?_
  go_wp2_with fail
  refine (same_k A7 A8 n7 n8 c7 c8 p p _ (Hr78.out.kept0 (Kept.refl [] w8).drew) (Hr8.out.kept0 (Kept.refl [] w8).drew)).mono ?_
  rw [show (p == p) = true from by simp]
  rintro e w9 ⟨rfl, hk9⟩
  have hK9 := (Kept.refl [] w8).drew.andThen hk9
  clear hk9
  go_wp2
  change _ ∧ wpAnyH _ _ _ _ _ _ _ _ _
  refine ⟨SK.out _ hK9, ?_⟩
  have hHeld := SK.out _ hK9
  refine held_pureD 3 35 (.bool false) rfl rfl (by kernel_rfl) (by kernel_rfl) (by kernel_rfl) rfl (fun w hS => rfl) hHeld ?_
  simp only [Act.put, List.setIfInBounds_toArray, List.set_cons_succ, List.set_cons_zero]
  refine held_pureD 4 36 (.bool false) rfl rfl (by kernel_rfl) (by kernel_rfl) (by kernel_rfl) rfl (fun w hS => rfl) hHeld ?_
  simp only [Act.put, List.setIfInBounds_toArray, List.set_cons_succ, List.set_cons_zero]
  refine held_pureD 5 37 (.int .i64 (er : Int)) rfl rfl (by kernel_rfl) (by kernel_rfl) (by kernel_rfl) rfl (fun w hS => rfl) hHeld ?_
  simp only [Act.put, List.setIfInBounds_toArray, List.set_cons_succ, List.set_cons_zero]
  refine held_pureD 6 38 (.int .i64 (er : Int)) rfl rfl (by kernel_rfl) (by kernel_rfl) (by kernel_rfl) rfl (fun w hS => rfl) hHeld ?_
  simp only [Act.put, List.setIfInBounds_toArray, List.set_cons_succ, List.set_cons_zero]
  refine held_pureD 7 39 (.bool false) rfl rfl (by kernel_rfl) (by kernel_rfl) (by kernel_rfl) rfl (fun w hS => pureNeI _ _ (.tmp 37) (.tmp 38) rfl (er : Int) (er : Int) rfl rfl false Hne.out w) hHeld ?_
  simp only [Act.put, List.setIfInBounds_toArray, List.set_cons_succ, List.set_cons_zero]
  refine held_pureD 8 40 (.bool false) rfl rfl (by kernel_rfl) (by kernel_rfl) (by kernel_rfl) rfl (fun w hS => rfl) hHeld ?_
  simp only [Act.put, List.setIfInBounds_toArray, List.set_cons_succ, List.set_cons_zero]
  refine held_pureD 9 41 (.bool false) rfl rfl (by kernel_rfl) (by kernel_rfl) (by kernel_rfl) rfl (fun w hS => rfl) hHeld ?_
  simp only [Act.put, List.setIfInBounds_toArray, List.set_cons_succ, List.set_cons_zero]
  refine held_loadD 10 42 rfl rfl (by kernel_rfl) (by kernel_rfl) (by kernel_rfl) rfl 28 (.tmp 5) rfl o 0 rfl L4 _ (fun w h => h.1) Tryd.underlying28 rfl Hs4.out hHeld ?_
  simp only [Act.put, List.setIfInBounds_toArray, List.set_cons_succ, List.set_cons_zero]
  refine held_loadD 11 43 rfl rfl (by kernel_rfl) (by kernel_rfl) (by kernel_rfl) rfl 28 (.tmp 3) rfl g 0 rfl L _ (fun w h => h.2) Tryd.underlying28 rfl Hs1.out hHeld ?_
  simp only [Act.put, List.setIfInBounds_toArray, List.set_cons_succ, List.set_cons_zero]
  refine held_one 12 (by kernel_rfl) rfl ?_
  go_wp2_with fail
  refine (HFs.out _ (HF8.out.kept0 hK9) (HFA8.out.kept0 hK9)).mono ?_
  rintro e w10 ⟨rfl, hk10⟩
  have hK10 := hK9.andThen hk10
  clear hk10
  go_wp2
  change _ ∧ wpAnyH _ _ _ _ _ _ _ _ _
  refine ⟨SK.out _ hK10, ?_⟩
  have hHeld := SK.out _ hK10
  refine held_pureD 13 45 (.bool false) rfl rfl (by kernel_rfl) (by kernel_rfl) (by kernel_rfl) rfl (fun w hS => rfl) hHeld ?_
  simp only [Act.put, List.setIfInBounds_toArray, List.set_cons_succ, List.set_cons_zero]
  refine held_pureD 14 46 (.bool false) rfl rfl (by kernel_rfl) (by kernel_rfl) (by kernel_rfl) rfl (fun w hS => rfl) hHeld ?_
  simp only [Act.put, List.setIfInBounds_toArray, List.set_cons_succ, List.set_cons_zero]
  refine held_pureD 15 47 (.bool false) rfl rfl (by kernel_rfl) (by kernel_rfl) (by kernel_rfl) rfl (fun w hS => rfl) hHeld ?_
  simp only [Act.put, List.setIfInBounds_toArray, List.set_cons_succ, List.set_cons_zero]
  refine held_loadD 16 48 rfl rfl (by kernel_rfl) (by kernel_rfl) (by kernel_rfl) rfl 28 (.tmp 3) rfl g 0 rfl L _ (fun w h => h.2) Tryd.underlying28 rfl Hs1.out hHeld ?_
  simp only [Act.put, List.setIfInBounds_toArray, List.set_cons_succ, List.set_cons_zero]
  refine held_loadD 18 50 rfl rfl (by kernel_rfl) (by kernel_rfl) (by kernel_rfl) rfl 28 (.tmp 3) rfl g 0 rfl L _ (fun w h => h.2) Tryd.underlying28 rfl Hs1.out hHeld ?_
  simp only [Act.put, List.setIfInBounds_toArray, List.set_cons_succ, List.set_cons_zero]
  refine held_one 17 (by kernel_rfl) rfl ?_
  go_wp2_with fail
  refine (HRig.out _ (HFA8.out.kept0 hK10)).mono ?_
  rintro e w11 ⟨rfl, hk11⟩
  have hK11 := hK10.andThen hk11
  clear hk11
  go_wp2
  change _ ∧ wpAnyH _ _ _ _ _ _ _ _ _
  refine ⟨SK.out _ hK11, ?_⟩
  refine held_one 19 (by kernel_rfl) rfl ?_
  go_wp2_with fail
  refine (HRr.out _ (HFA8.out.kept0 hK11)).mono ?_
  rintro e w12 ⟨rfl, hk12⟩
  have hK12 := hK11.andThen hk12
  clear hk12
  go_wp2
  change _ ∧ wpAnyH _ _ _ _ _ _ _ _ _
  refine ⟨SK.out _ hK12, ?_⟩
  have hrr := Hrr.out
  refine held_one 20 (by kernel_rfl) rfl ?_
  go_wp2
  change _ ∧ wpAnyH _ _ _ _ _ _ _ _ _
  refine ⟨SK.out _ hK12, ?_⟩
  refine held_one 21 (by kernel_rfl) rfl ?_
  go_wp2
  change _ ∧ wpAnyH _ _ _ _ _ _ _ _ _
  refine ⟨SK.out _ hK12, ?_⟩
  refine held_done (by kernel_rfl) ?_
  have HK212 := Lib.hid (HK28.out.andThen hK12)
  have Hr712 := Lib.hid (Hr78.out.kept0 hK12)
  clear hHeld hK9 hK10 hK11 hK12 hrr SK
  cases rb with
  | false =>
    have he : er = 14 := by rw [← Her.out, frPut_no HRb.out]
    have hne : ((er : Int) != 0) = true := by rw [he]; rfl
    clear he
    go_wp2
    go_ret
    exact ⟨rfl, HK2.out.andThen HK212.out⟩
  | true =>
    have he : er = 0 := by rw [← Her.out, frPut_ok HRb.out]
    subst he
    have HGt : Hid (frGet key p = (f, 0)) := Lib.hid (by rw [← Hp.out]; exact frGet_put HRb.out HFA.out.obj)
    have hA12 := SKa.out _ HK212.out
    go_wp2_with (with_reducible change wpList _ _ _ (⟨_, Op.load 23 (.tmp 2), _, _, _, _⟩ :: _) _ _; refine wpList_load_blk rfl 23 (.tmp 2) rfl a rfl 23 _ _ hA12 arr32b rfl Hsk.out ?_)
    refine (HFh.out.get key A7 n7 c7 p _ Hkl.out Hr712.out (by have := Hn7.out; omega) (HFh.out.kept HGl.out (HK2.out.andThen HK212.out))).mono ?_
    rw [HGt.out]
    rintro e w13 ⟨A13, n13, c13, rfl, hf13, hk13, hb13⟩
    obtain ⟨L13, hL13⟩ : ∃ L13, frc f A13 n13 c13 = L13 := ⟨_, rfl⟩
    have Hs13 := Lib.hid (Hsf.out A13 n13 c13)
    have Ho13 := Lib.hid (Hon.out A13 n13 c13)
    have Hl13 := Lib.hid (Hzl.out A13 n13 c13)
    rw [hL13] at Hs13 Ho13 Hl13
    rw [hL13]
    have HL13 := Lib.hid hL13
    have HF13 := Lib.hid hf13
    have HK213 := Lib.hid (HK212.out.andThen hk13)
    clear hf13 hk13 hb13 hL13 hA12
    go_wp2_with (with_reducible change wpList _ _ _ (⟨_, Op.alloc _, _, _, _, _⟩ :: _) _ _; refine wpList_alloc_blk rfl 28 rfl _ zeroFr ?_)
    intro w14 hO14 hk14 hs14
    obtain ⟨q, hq⟩ : ∃ q, q = w13.heap.size := ⟨_, rfl⟩
    rw [← hq] at hO14 ⊢
    have Hq : Hid (w2.heap.size ≤ q) := Lib.hid (by have := HK213.out.size; omega)
    refine wpList_store_blk rfl 28 (.tmp 10) (.tmp 60) rfl q L13 rfl rfl 28 _ hO14 Hs13.out Hl13.out Ho13.out ?_
    intro w15 hO15 hk15 hs15
    have HK215 : Hid (Kept [] w2 w15) := Lib.hid ((HK213.out.andThen hk14).trans hk15 (fun i hi => .inr (by have := List.mem_singleton.1 hi; have := Hq.out; omega)))
    have HF15 : Hid (FrAt w15 f A13 n13 c13) := Lib.hid ((HF13.out.kept0 hk14).kept hk15 (fun hp => by
      obtain ⟨bb, off, e, hbb, _⟩ := HF13.out.piece.at_ hp
      subst e
      intro x hx hm
      injection hx with hx
      subst hx
      have := List.mem_singleton.1 hm
      simp at this
      omega))
    have hFA15 := HFA.out.kept0 (HK2.out.andThen HK215.out)
    have hG15 := SKg.out _ HK215.out
    have HF2 : Hid (∀ W, FrAt W f A13 n13 c13 → FrAt W f A n c → Calls Tryd.prog 12 #[.agg L13.toArray, .agg L.toArray] W fun e w' => e = .returned (.bool true) ∧ Kept [] W w') := Lib.hid (by
      rw [← HL13.out, ← HL.out]
      intro W h1 h2
      have := rFs_any f f A13 A n13 c13 n c W h1 h2
      rw [frEq_refl] at this
      exact this)
    clear hO14 hk14 hs14 hk15 hs15 hq HF13 HK213 HK212
    go_wp2_with (first
      | (with_reducible change wpList _ _ _ (⟨_, Op.load 28 (.tmp 10), _, _, _, _⟩ :: _) _ _; refine wpList_unguard (by first | (simp [Region.wanted, yielded]; done) | (simp [Region.wanted, yielded, Act.put]; done) | rfl) ?_; refine wpList_load_blk rfl 28 (.tmp 10) rfl q rfl 28 L13 _ hO15 Tryd.underlying28 rfl Hs13.out ?_)
      | (with_reducible change wpList _ _ _ (⟨_, Op.load 28 (.tmp 3), _, _, _, _⟩ :: _) _ _; refine wpList_unguard (by first | (simp [Region.wanted, yielded]; done) | (simp [Region.wanted, yielded, Act.put]; done) | rfl) ?_; refine wpList_load_blk rfl 28 (.tmp 3) rfl g rfl 28 L _ hG15 Tryd.underlying28 rfl Hs1.out ?_))
    refine (HF2.out _ HF15.out hFA15).mono ?_
    rintro e w16 ⟨rfl, hk16⟩
    have HK16 := Lib.hid ((HK2.out.andThen HK215.out).andThen hk16)
    clear hk16
    go_wp2
    go_ret
    exact ⟨rfl, HK16.out⟩
end Go.Proofs.YtibcjbelcplpjaaDoor
