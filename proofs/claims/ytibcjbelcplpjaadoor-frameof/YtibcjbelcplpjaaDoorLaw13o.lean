/-
  The walk of a law of layer 13: the frame of an object and an index, over whatever contracts the program's functions keep. Written by a script. No statement of the seed is proved here.
-/
import Derived.Test.YtibcjbelcplpjaaDoorPd
import Derived.Test.YtibcjbelcplpjaaDoorFrJ
import Derived.Test.YtibcjbelcplpjaaDoorPe
namespace Go.Proofs.YtibcjbelcplpjaaDoor
open Go.RowKit
set_option linter.unusedVariables false

theorem xor1_ne (y : UInt8) : y ^^^ 1 ≠ y := by
  intro h
  have h2 : y ^^^ (y ^^^ 1) = y ^^^ y := by rw [h]
  rw [← UInt8.xor_assoc, UInt8.xor_self, UInt8.zero_xor] at h2
  exact absurd h2 (by decide)
theorem set3_ne {o : List UInt8} {y : UInt8} (h : o[3]? = some y) : o ≠ o.set 3 (y ^^^ 1) := by
  intro e
  have h1 := congrArg (fun l : List UInt8 => l[3]?) e
  have hl := (List.getElem?_eq_some_iff.1 h).1
  simp only [List.getElem?_set, h, if_pos hl, ↓reduceIte] at h1
  have h2 := Option.some.inj h1
  exact xor1_ne y h2.symm

set_option maxRecDepth 100000 in
set_option maxHeartbeats 16000000 in
theorem of13_walk {G : World → Prop} (HF : FrHas G) (HN : NameHas G) (key : List UInt8) (f : Fr) (A : Option Addr) (n c : Nat) (z : Int) (w : World) (hz : (Lit.int .i64 z).wf = true) (hgl : G w) (hkl : key.length = 32) (h : FrAt w f A n c) :
    Calls Tryd.prog 5 #[.agg (bvs key).toArray, .agg (frc f A n c).toArray, .int .i64 z] w fun e w' => e = .returned (.bool true) ∧ Kept [] w w' := by
  obtain ⟨z0, z1⟩ := bounds_i64 hz
  obtain ⟨w1, hw1⟩ : ∃ w1, w1 = w.alloc (.cells (bvs key).toArray 23) := ⟨_, rfl⟩
  obtain ⟨w2, hw2⟩ : ∃ w2, w2 = w1.alloc (.cells (frc f A n c).toArray 28) := ⟨_, rfl⟩
  obtain ⟨a, ha⟩ : ∃ a, a = w.heap.size := ⟨_, rfl⟩
  obtain ⟨g, hg⟩ : ∃ g, g = w1.heap.size := ⟨_, rfl⟩
  have hA : Blk w1 a 23 (bvs key) := by rw [hw1, ha]; exact Blk.new w 23 (bvs key)
  have hk1 : Kept [] w w1 := by rw [hw1]; exact (Kept.refl [] w).alloc _
  have hk2 : Kept [] w1 w2 := by rw [hw2]; exact (Kept.refl [] w1).alloc _
  have hG : FrB w2 g f A n c := by rw [hw2, hg]; exact FrB.new w1 f A n c h.obj
  have HA := Lib.hid (hA.kept0 hk2)
  have HGb := Lib.hid hG
  have HK2 := Lib.hid (hk1.andThen hk2)
  have HFA := Lib.hid h
  have HRg : Hid (∀ W, Kept [] w2 W → W.rangeAt g 0 (bvs f.obj)) := Lib.hid (fun W hk => (hG.kept0 hk).range)
  have Hso := Lib.hid (size_of_len (P := Tryd.prog) (ty := 25) sizeId h.obj)
  have HGl := Lib.hid hgl
  have Hsk := Lib.hid (size_of_len (P := Tryd.prog) (ty := 23) size32 hkl)
  have Hsf : Hid (∀ B m d, (Tryd.prog.info? 28).map (·.size) = some (frc f B m d).length) := Lib.hid (fun B m d => frc_size h.obj)
  have Hon : Hid (∀ B m d, ∀ v ∈ frc f B m d, v.oneCell' = true) := Lib.hid (fun B m d => frc_one f B m d)
  have Hzl : Hid (∀ B m d, (frc fr0 none 0 0).length = (frc f B m d).length) := Lib.hid (fun B m d => by rw [frc_length (f := fr0) (by unfold fr0; simp), frc_length h.obj])
  have Hkl := Lib.hid hkl
  have W1 := Lib.hid hw1
  have W2 := Lib.hid hw2
  have A0 := Lib.hid ha
  have G0 := Lib.hid hg
  have HW := Lib.hid (wakes13_any HN w2 (HN.kept hgl HK2.out))
  have HFh := Lib.hid HF
  have b1 := h.piece.cap
  have b2 := h.piece.most
  unfold maxLen at b2
  obtain ⟨L, hL⟩ : ∃ L, frc f A n c = L := ⟨_, rfl⟩
  rw [hL] at W2 ⊢
  have HL := Lib.hid hL
  have Hs1 := Lib.hid (Hsf.out A n c)
  rw [hL] at Hs1
  have SKa : Hid (∀ W, Kept [] w2 W → Blk W a 23 (bvs key)) := Lib.hid (fun W hk => HA.out.kept0 hk)
  have SKg : Hid (∀ W, Kept [] w2 W → Blk W g 28 L) := Lib.hid (fun W hk => by rw [← HL.out]; exact (HGb.out.kept0 hk).blk)
  clear hz hw1 hw2 ha hg hA hk1 hk2 hG h hkl hL hgl HF HN
  go_enter Tryd.func5, Tryd.ntmps5
  go_wp2_with (first
    | (with_reducible change wpList _ _ _ (⟨_, Op.box _ (.tmp 0), _, _, _, _⟩ :: _) _ _; refine Great.wpList_boxTo rfl 23 _ rfl _ rfl a A0.out.symm (bvs key).toArray rfl ?_; rw [← W1.out])
    | (with_reducible change wpList _ _ _ (⟨_, Op.box _ (.tmp 1), _, _, _, _⟩ :: _) _ _; refine Great.wpList_boxTo rfl 28 _ rfl _ rfl g G0.out.symm L.toArray rfl ?_; rw [← W2.out]))
  refine HW.out.mono ?_
  rintro e w3 ⟨rfl, hk3⟩
  have d5 := (HGb.out.kept0 hk3).piece
  have HK23 := Lib.hid hk3
  clear hk3
  by_cases hb : 2000 < n
  · go_wp2
    go_ret
    exact ⟨rfl, HK2.out.andThen HK23.out⟩
  have hb2 : ¬ 2000 < n := hb
  have hG3 := SKg.out _ HK23.out
  have hA3 := SKa.out _ HK23.out
  go_wp2_with (first
    | (with_reducible change wpList _ _ _ (⟨_, Op.load 23 (.tmp 3), _, _, _, _⟩ :: _) _ _; refine wpList_load_blk rfl 23 (.tmp 3) rfl a rfl 23 _ _ hA3 arr32b rfl Hsk.out ?_)
    | (with_reducible change wpList _ _ _ (⟨_, Op.load 28 (.tmp 4), _, _, _, _⟩ :: _) _ _; refine wpList_load_blk rfl 28 (.tmp 4) rfl g rfl 28 L _ hG3 Tryd.underlying28 rfl Hs1.out ?_))
  rw [← HL.out]
  refine (rPt_any key f A n c _ Hkl.out (HFA.out.kept0 (HK2.out.andThen HK23.out))).mono ?_
  obtain ⟨er, her⟩ : ∃ er, (frPut key f).2 = er := ⟨_, rfl⟩
  obtain ⟨p, hp⟩ : ∃ p, (frPut key f).1 = p := ⟨_, rfl⟩
  have Hpl : Hid (p.length ≤ 1200) := Lib.hid (by rw [← hp]; exact frPut_len HFA.out.obj)
  rw [her, hp]
  have Her := Lib.hid her
  have Hp := Lib.hid hp
  rintro e w7 ⟨v7, rfl, ho7, hk7, hf7⟩
  obtain ⟨A7, n7, c7, rfl, hr7, _⟩ := ho7.form
  rw [HL.out]
  have Hr7 := Lib.hid hr7
  have Hn7 : Hid (n7 ≤ 1200) := Lib.hid (by rw [← hr7.len]; exact Hpl.out)
  have HK27 := Lib.hid (HK23.out.andThen hk7)
  clear ho7 hk7 hf7 hr7 her hp hA3 hG3 d5 HK23
  cases hR : frRight f with
  | false =>
    have he : er = 14 := by rw [← Her.out, frPut_no hR]
    have hne : ((er : Int) != 0) = true := by rw [he]; rfl
    clear he
    go_wp2
    go_ret
    exact ⟨rfl, HK2.out.andThen HK27.out⟩
  | true =>
    have he : er = 0 := by rw [← Her.out, frPut_ok hR]
    subst he
    have HOp : Hid (∀ o y, frOf key o y p = if f.obj ≠ o ∨ f.idx ≠ y then (fr0, 11) else (f, 0)) := Lib.hid (fun o y => by rw [← Hp.out]; exact frOf_put hR HFA.out.obj)
    have hA7 := SKa.out _ HK27.out
    have hO7 := HRg.out _ HK27.out
    clear hR
    go_wp2_with (first
      | (with_reducible change wpList _ _ _ (⟨_, Op.load 23 (.tmp 3), _, _, _, _⟩ :: _) _ _; refine wpList_load_blk rfl 23 (.tmp 3) rfl a rfl 23 _ _ hA7 arr32b rfl Hsk.out ?_)
      | (with_reducible change wpList _ _ _ (⟨_, Op.load 25 (.tmp 30), _, _, _, _⟩ :: _) _ _; refine wpList_load_mid rfl 25 (.tmp 30) rfl g 0 rfl _ _ hO7 arrId rfl Hso.out ?_))
    refine (HFh.out.of_ key f.obj z A7 n7 c7 p _ Hkl.out HFA.out.obj z0 z1 Hr7.out (by have := Hn7.out; omega) (HFh.out.kept HGl.out (HK2.out.andThen HK27.out))).mono ?_
    obtain ⟨f8, hf8⟩ : ∃ f8, (frOf key f.obj z p).1 = f8 := ⟨_, rfl⟩
    obtain ⟨e8, he8⟩ : ∃ e8, (frOf key f.obj z p).2 = e8 := ⟨_, rfl⟩
    have HF8 : Hid ((z = f.idx → f8 = f ∧ e8 = 0) ∧ (z ≠ f.idx → f8 = fr0 ∧ e8 = 11)) := Lib.hid (by
      rw [← hf8, ← he8, HOp.out]
      constructor
      · intro h
        rw [if_neg (by rw [h]; simp)]
        exact ⟨rfl, rfl⟩
      · intro h
        rw [if_pos (.inr (fun e => h e.symm))]
        exact ⟨rfl, rfl⟩)
    rw [hf8, he8]
    rintro e w8 ⟨A8, n8, c8, rfl, hfa8, hk8, hb8⟩
    obtain ⟨L8, hL8⟩ : ∃ L8, frc f8 A8 n8 c8 = L8 := ⟨_, rfl⟩
    have Hs8 := Lib.hid (frc_size (A := A8) (n := n8) (c := c8) hfa8.obj)
    have Ho8 := Lib.hid (frc_one f8 A8 n8 c8)
    have Hl8 : Hid ((frc fr0 none 0 0).length = (frc f8 A8 n8 c8).length) := Lib.hid (by rw [frc_length (f := fr0) (by unfold fr0; simp), frc_length hfa8.obj])
    rw [hL8] at Hs8 Ho8 Hl8
    rw [hL8]
    have HL8 := Lib.hid hL8
    have HFA8 := Lib.hid hfa8
    have HK28 := Lib.hid (HK27.out.andThen hk8)
    have HK78 := Lib.hid hk8
    clear hfa8 hk8 hb8 hL8 hf8 he8 hA7 hO7
    go_wp2_with (with_reducible change wpList _ _ _ (⟨_, Op.alloc _, _, _, _, _⟩ :: _) _ _; refine wpList_alloc_blk rfl 28 rfl _ zeroFr ?_)
    intro w9 hO9 hk9 hs9
    obtain ⟨q, hq⟩ : ∃ q, q = w8.heap.size := ⟨_, rfl⟩
    rw [← hq] at hO9 ⊢
    have Hq : Hid (w2.heap.size ≤ q) := Lib.hid (by have := HK28.out.size; omega)
    refine wpList_store_blk rfl 28 (.tmp 9) (.tmp 35) rfl q L8 rfl rfl 28 _ hO9 Hs8.out Hl8.out Ho8.out ?_
    intro w10 hO10 hk10 hs10
    have HK810 : Hid (Kept [q] w8 w10) := Lib.hid ((hk9.mono (T := [q]) (by simp)).trans hk10 (fun i hi => .inl hi))
    have HK210 : Hid (Kept [] w2 w10) := Lib.hid (HK28.out.trans HK810.out (fun i hi => .inr (by have := List.mem_singleton.1 hi; have := Hq.out; omega)))
    have HFA10 : Hid (FrAt w10 f8 A8 n8 c8) := Lib.hid (HFA8.out.kept HK810.out (fun hp => by
      obtain ⟨bb, off, e, hbb, _⟩ := HFA8.out.piece.at_ hp
      subst e
      intro x hx hm
      injection hx with hx
      subst hx
      have := List.mem_singleton.1 hm
      simp at this
      omega))
    have Hr10 := Lib.hid ((Hr7.out.kept0 HK78.out).keptNew HK810.out (fun i hi => by have := List.mem_singleton.1 hi; omega))
    have HQ10 := Lib.hid hO10
    clear hO9 hk9 hs9 hO10 hk10 hs10 hq HFA8 HK810 HK78
    have hO10' := HRg.out _ HK210.out
    go_wp2_with (first
      | (with_reducible change wpList _ _ _ (⟨_, Op.load 25 (.tmp 37), _, _, _, _⟩ :: _) _ _; refine wpList_load_mid rfl 25 (.tmp 37) rfl g 0 rfl _ _ hO10' arrId rfl Hso.out ?_)
      | (with_reducible change wpList _ _ _ (⟨_, Op.alloc _, _, _, _, _⟩ :: _) _ _; refine wpList_alloc_blk rfl 25 rfl _ zeroId ?_))
    intro w11 hI11 hk11 hs11
    obtain ⟨y, hy⟩ : ∃ y, y = w10.heap.size := ⟨_, rfl⟩
    rw [← hy] at hI11 ⊢
    have Hy : Hid (w2.heap.size ≤ y ∧ q < y) := Lib.hid (by have h1 := HK210.out.size; have h2 := HQ10.out.lt; omega)
    refine wpList_store_blk rfl 25 (.tmp 11) (.tmp 38) rfl y (bvs f.obj) rfl rfl 25 _ hI11 Hso.out (by rw [zb_length, bvs_length, HFA.out.obj]) (bvs_one _) ?_
    intro w12 hI12 hk12 hs12
    have HK1012 : Hid (Kept [y] w10 w12) := Lib.hid ((hk11.mono (T := [y]) (by simp)).trans hk12 (fun i hi => .inl hi))
    obtain ⟨b3, hb3⟩ : ∃ b3, f.obj[3]? = some b3 := ⟨f.obj[3]'(by rw [HFA.out.obj]; omega), List.getElem?_eq_getElem _⟩
    have HI12 := Lib.hid hI12
    have c3 : w12.cell? ⟨y, 3, none⟩ = some (.int .u8 (b3.toNat : Int)) := by rw [hI12.cell, bvs, List.getElem?_map, hb3]; rfl
    have f3 : w12.frozen? ⟨y, 3, none⟩ = false := hI12.frz 3
    obtain ⟨s8, hs8⟩ : ∃ s8, b3 ^^^ 1 = s8 := ⟨_, rfl⟩
    have rx : bits .xor .u8 (b3.toNat : Int) 1 = (s8.toNat : Int) := by rw [← hs8]; exact bits_xorB b3 1
    obtain ⟨o2, ho2⟩ : ∃ o2, f.obj.set 3 s8 = o2 := ⟨_, rfl⟩
    have Ho2l : Hid (o2.length = 16) := Lib.hid (by rw [← ho2, List.length_set]; exact HFA.out.obj)
    have Hne2 : Hid (f.obj ≠ o2) := Lib.hid (by rw [← ho2, ← hs8]; exact set3_ne hb3)
    have hI13 := hI12.set 3 (.int .u8 (s8.toNat : Int))
    have hIs : (bvs f.obj).set 3 (.int .u8 (s8.toNat : Int)) = bvs o2 := by rw [← ho2]; simp only [bvs, List.map_set]; rfl
    rw [hIs] at hI13
    have hky : Kept [y] w12 (w12.setCell ⟨y, 3, none⟩ (.int .u8 (s8.toNat : Int))) := (Kept.refl [y] w12).setCell (.inl (by simp)) _
    have hKy := HK1012.out.trans hky (fun i hi => .inl hi)
    have HK213 : Hid (Kept [] w2 (w12.setCell ⟨y, 3, none⟩ (.int .u8 (s8.toNat : Int)))) := Lib.hid (HK210.out.trans hKy (fun i hi => .inr (by have := List.mem_singleton.1 hi; have := Hy.out; omega)))
    have HQ13 := Lib.hid (HQ10.out.kept hKy (by have := Hy.out.2; simp; omega))
    have HFA13 : Hid (FrAt (w12.setCell ⟨y, 3, none⟩ (.int .u8 (s8.toNat : Int))) f8 A8 n8 c8) := Lib.hid (HFA10.out.kept hKy (fun hp => by
      obtain ⟨bb, off, e, hbb, _⟩ := HFA10.out.piece.at_ hp
      subst e
      intro x hx hm
      injection hx with hx
      subst hx
      have := List.mem_singleton.1 hm
      simp at this
      omega))
    have Hr13 := Lib.hid (Hr10.out.keptNew hKy (fun i hi => by have := List.mem_singleton.1 hi; omega))
    have Hs2 := Lib.hid (size_of_len (P := Tryd.prog) (ty := 25) sizeId Ho2l.out)
    have HI13 := Lib.hid hI13
    have hA13 := SKa.out _ HK213.out
    have dix := (HGb.out.kept0 HK213.out).idx
    clear hs8 hI11 hk11 hs11 hI12 hk12 hs12 hy hb3 ho2 hI13 hIs hky hKy HFA10 Hr10 HQ10 HK1012 HI12 hO10'
    obtain ⟨zi, hzi⟩ : ∃ zi, f.idx = zi := ⟨_, rfl⟩
    rw [hzi] at dix HF8 
    have Hzi := Lib.hid hzi
    clear hzi
    go_wp2_with (first
      | (with_reducible change wpList _ _ _ (⟨_, Op.load 23 (.tmp 3), _, _, _, _⟩ :: _) _ _; refine wpList_load_blk rfl 23 (.tmp 3) rfl a rfl 23 _ _ hA13 arr32b rfl Hsk.out ?_)
      | (with_reducible change wpList _ _ _ (⟨_, Op.load 25 (.tmp 11), _, _, _, _⟩ :: _) _ _; refine wpList_load_blk rfl 25 (.tmp 11) rfl y rfl 25 (bvs o2) _ HI13.out arrId rfl Hs2.out ?_))
    have HOi := Lib.hid HFA.out.idx
    refine (HFh.out.of_ key o2 zi A7 n7 c7 p _ Hkl.out Ho2l.out (by have := HOi.out.1; rw [Hzi.out] at this; exact this) (by have := HOi.out.2; rw [Hzi.out] at this; exact this) Hr13.out (by have := Hn7.out; omega) (HFh.out.kept HGl.out (HK2.out.andThen HK213.out))).mono ?_
    have HO2 : Hid (frOf key o2 zi p = (fr0, 11)) := Lib.hid (by rw [HOp.out, if_pos (.inl Hne2.out)])
    rw [HO2.out]
    rintro e w14 ⟨A14, n14, c14, rfl, hf14, hk14, hb14⟩
    obtain ⟨L14, hL14⟩ : ∃ L14, frc fr0 A14 n14 c14 = L14 := ⟨_, rfl⟩
    have Hs14 := Lib.hid (frc_size (A := A14) (n := n14) (c := c14) hf14.obj)
    have Ho14 := Lib.hid (frc_one fr0 A14 n14 c14)
    have Hl14 : Hid ((frc fr0 none 0 0).length = (frc fr0 A14 n14 c14).length) := Lib.hid (by rw [frc_length (f := fr0) (by unfold fr0; simp), frc_length hf14.obj])
    rw [hL14] at Hs14 Ho14 Hl14
    rw [hL14]
    have HK214 := Lib.hid (HK213.out.andThen hk14)
    have HQ14 := Lib.hid (HQ13.out.kept0 hk14)
    have HFA14 := Lib.hid (HFA13.out.kept0 hk14)
    clear hf14 hk14 hb14 hL14 hA13 HQ13 HFA13 Hr13 HI13 c3 f3 rx HK213
    go_wp2_with (with_reducible change wpList _ _ _ (⟨_, Op.alloc _, _, _, _, _⟩ :: _) _ _; refine wpList_alloc_blk rfl 28 rfl _ zeroFr ?_)
    intro w15 hO15 hk15 hs15
    obtain ⟨x, hx⟩ : ∃ x, x = w14.heap.size := ⟨_, rfl⟩
    rw [← hx] at hO15 ⊢
    have Hx : Hid (w2.heap.size ≤ x ∧ q < x) := Lib.hid (by have h1 := HK214.out.size; have h2 := HQ14.out.lt; omega)
    refine wpList_store_blk rfl 28 (.tmp 12) (.tmp 50) rfl x L14 rfl rfl 28 _ hO15 Hs14.out Hl14.out Ho14.out ?_
    intro w16 hO16 hk16 hs16
    have hKx : Kept [x] w14 w16 := (hk15.mono (T := [x]) (by simp)).trans hk16 (fun i hi => .inl hi)
    have HK216 : Hid (Kept [] w2 w16) := Lib.hid (HK214.out.trans hKx (fun i hi => .inr (by have := List.mem_singleton.1 hi; have := Hx.out; omega)))
    have hQ16 := HQ14.out.kept hKx (by have := Hx.out.2; simp; omega)
    have HFA16 : Hid (FrAt w16 f8 A8 n8 c8) := Lib.hid (HFA14.out.kept hKx (fun hp => by
      obtain ⟨bb, off, e, hbb, _⟩ := HFA14.out.piece.at_ hp
      subst e
      intro u hu hm
      injection hu with hu
      subst hu
      have := List.mem_singleton.1 hm
      simp at this
      omega))
    have dix2 := (HGb.out.kept0 HK216.out).idx
    rw [Hzi.out] at dix2
    have hG16 := SKg.out _ HK216.out
    have HFo16 := Lib.hid (HFA.out.kept0 (HK2.out.andThen HK216.out))
    clear hO15 hk15 hs15 hk16 hs16 hKx hx HQ14 HFA14 HK214 dix hO16
    by_cases hzz : z = zi
    · obtain ⟨h1, h2⟩ := HF8.out.1 hzz
      subst h1 h2
      have hzn : (z != zi) = false := by simp [hzz]
      have HFs : Hid (∀ W, FrAt W f8 A8 n8 c8 → FrAt W f8 A n c → Calls Tryd.prog 12 #[.agg L8.toArray, .agg L.toArray] W fun e w' => e = .returned (.bool true) ∧ Kept [] W w') := Lib.hid (by
        rw [← HL8.out, ← HL.out]
        intro W h1 h2
        have := rFs_any f8 f8 A8 A n8 c8 n c W h1 h2
        rw [frEq_refl] at this
        exact this)
      clear hzz HF8
      go_wp2_with (first
        | (with_reducible change wpList _ _ _ (⟨_, Op.load 28 (.tmp 9), _, _, _, _⟩ :: _) _ _; refine wpList_unguard (by first | (simp [Region.wanted, yielded]; done) | (simp [Region.wanted, yielded, Act.put]; done) | rfl) ?_; refine wpList_load_blk rfl 28 (.tmp 9) rfl q rfl 28 L8 _ hQ16 Tryd.underlying28 rfl Hs8.out ?_)
        | (with_reducible change wpList _ _ _ (⟨_, Op.load 28 (.tmp 4), _, _, _, _⟩ :: _) _ _; refine wpList_unguard (by first | (simp [Region.wanted, yielded]; done) | (simp [Region.wanted, yielded, Act.put]; done) | rfl) ?_; refine wpList_load_blk rfl 28 (.tmp 4) rfl g rfl 28 L _ hG16 Tryd.underlying28 rfl Hs1.out ?_))
      refine (HFs.out _ HFA16.out HFo16.out).mono ?_
      rintro e w17 ⟨rfl, hk17⟩
      have HK17 := Lib.hid ((HK2.out.andThen HK216.out).andThen hk17)
      clear hk17
      go_wp2
      go_ret
      exact ⟨rfl, HK17.out⟩
    · obtain ⟨h1, h2⟩ := HF8.out.2 hzz
      subst h1 h2
      have hzn : (z != zi) = true := by simp [hzz]
      have HFs : Hid (∀ W, FrAt W fr0 A8 n8 c8 → Calls Tryd.prog 12 #[.agg L8.toArray, .agg (zb 16 ++ [Value.int .i64 0, .int .i64 0, .int .i64 0, .int .i64 0, .slice none 0 0]).toArray] W fun e w' => e = .returned (.bool true) ∧ Kept [] W w') := Lib.hid (by
        rw [← HL8.out, ← frc_zero]
        intro W h1
        have := rFs_any fr0 fr0 A8 none n8 c8 0 0 W h1 (fr0_at W)
        rw [frEq_refl] at this
        exact this)
      clear hzz HF8
      go_wp2_with (with_reducible change wpList _ _ _ (⟨_, Op.load 28 (.tmp 9), _, _, _, _⟩ :: _) _ _; refine wpList_unguard (by first | (simp [Region.wanted, yielded]; done) | (simp [Region.wanted, yielded, Act.put]; done) | rfl) ?_; refine wpList_load_blk rfl 28 (.tmp 9) rfl q rfl 28 L8 _ hQ16 Tryd.underlying28 rfl Hs8.out ?_)
      refine (HFs.out _ HFA16.out).mono ?_
      rintro e w17 ⟨rfl, hk17⟩
      have HK17 := Lib.hid ((HK2.out.andThen HK216.out).andThen hk17)
      clear hk17
      go_wp2
      go_ret
      exact ⟨rfl, HK17.out⟩
end Go.Proofs.YtibcjbelcplpjaaDoor
