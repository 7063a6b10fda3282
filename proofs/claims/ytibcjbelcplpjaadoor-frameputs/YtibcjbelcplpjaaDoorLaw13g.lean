/-
  The walk of a law of layer 13: any bytes are the frame that the document says, over whatever contracts the program's functions keep. Written by a script. No statement of the seed is proved here.
-/
import Derived.Test.YtibcjbelcplpjaaDoorPd
import Derived.Test.YtibcjbelcplpjaaDoorFrJ
import Derived.Test.YtibcjbelcplpjaaDoorPe
namespace Go.Proofs.YtibcjbelcplpjaaDoor
open Go.RowKit
set_option linter.unusedVariables false

set_option maxRecDepth 100000 in
set_option maxHeartbeats 32000000 in
theorem gets13_walk {G : World → Prop} (HF : FrHas G) (HN : NameHas G) (key : List UInt8) (A : Option Addr) (n c : Nat) (b : List UInt8) (w : World) (hgl : G w) (hkl : key.length = 32) (hr : RdB w A n c b) :
    Calls Tryd.prog 4 #[.agg (bvs key).toArray, .slice A n c] w fun e w' => e = .returned (.bool true) ∧ Kept [] w w' := by
  obtain ⟨i0, hi, hz0, hz1, hz2⟩ := info_parts u8info
  obtain ⟨w1, hw1⟩ : ∃ w1, w1 = w.alloc (.cells (bvs key).toArray 23) := ⟨_, rfl⟩
  obtain ⟨a, ha⟩ : ∃ a, a = w.heap.size := ⟨_, rfl⟩
  have hA : Blk w1 a 23 (bvs key) := by rw [hw1, ha]; exact Blk.new w 23 (bvs key)
  have hk1 : Kept [] w w1 := by rw [hw1]; exact (Kept.refl [] w).alloc _
  have HA := Lib.hid hA
  have HK1 := Lib.hid hk1
  have HGl := Lib.hid hgl
  have Hsk := Lib.hid (size_of_len (P := Tryd.prog) (ty := 23) size32 hkl)
  have Hkl := Lib.hid hkl
  have W1 := Lib.hid hw1
  have A0 := Lib.hid ha
  have HW := Lib.hid (wakes13_any HN w1 (HN.kept hgl hk1))
  have HFh := Lib.hid HF
  have HR := Lib.hid hr
  have b1 := hr.cap
  have b2 := hr.most
  unfold maxLen at b2
  have SKa : Hid (∀ W, Kept [] w1 W → Blk W a 23 (bvs key)) := Lib.hid (fun W hk => HA.out.kept0 hk)
  clear hw1 ha hA hk1 hkl hgl HF HN hr
  go_enter Tryd.func4, Tryd.ntmps4
  go_wp2_with (with_reducible change wpList _ _ _ (⟨_, Op.box _ (.tmp 0), _, _, _, _⟩ :: _) _ _; refine Great.wpList_boxTo rfl 23 _ rfl _ rfl a A0.out.symm (bvs key).toArray rfl ?_; rw [← W1.out])
  refine HW.out.mono ?_
  rintro e w4 ⟨rfl, hk4⟩
  have HK14 := Lib.hid hk4
  clear hk4
  by_cases hb : 3000 < n
  · go_wp2
    go_ret
    exact ⟨rfl, HK1.out.andThen HK14.out⟩
  have hb2 : ¬ 3000 < n := hb
  obtain ⟨f1, hf1⟩ : ∃ f1, (frGet key b).1 = f1 := ⟨_, rfl⟩
  obtain ⟨e1, he1⟩ : ∃ e1, (frGet key b).2 = e1 := ⟨_, rfl⟩
  have HG : Hid (frGet key b = (f1, e1)) := Lib.hid (by rw [← hf1, ← he1])
  have SK : Hid (∀ W, Kept [] w4 W → W.rangeAt a 0 (bvs key)) := Lib.hid (fun W hk => (SKa.out _ (HK14.out.andThen hk)).rangeOf)
  clear hf1 he1
  go_wp2
  have hkd : Kept [] w4 w4.drew := (Kept.refl [] w4).drew
  have hHeld := SK.out _ hkd
  refine wp_region_begin (fun W => W.rangeAt a 0 (bvs key)) (by kernel_rfl) ?_
  refine held_loadD 0 17 rfl rfl (by kernel_rfl) (by kernel_rfl) (by kernel_rfl) rfl 23 (.tmp 2) rfl a 0 rfl (bvs key) _ (fun w h => h) arr32b rfl Hsk.out hHeld ?_
  simp only [Act.put, List.setIfInBounds_toArray, List.set_cons_succ, List.set_cons_zero]
  refine held_pureD 2 19 (Value.slice A n c) rfl rfl (by kernel_rfl) (by kernel_rfl) (by kernel_rfl) rfl (fun w hS => rfl) hHeld ?_
  simp only [Act.put, List.setIfInBounds_toArray, List.set_cons_succ, List.set_cons_zero]
  generalize w4.drew = wd at *
  refine held_two 1 8 (by kernel_rfl) rfl rfl ?_ ?_
  · obtain ⟨wb1, hwb1⟩ : ∃ wb, wb = wd.alloc (.cells #[] 5) := ⟨_, rfl⟩
    obtain ⟨zb, hzb1⟩ : ∃ zb, zb = wd.heap.size := ⟨_, rfl⟩
    have hkb1 : Kept [] wd wb1 := by rw [hwb1]; exact (Kept.refl [] _).alloc _
    have hob1 : OwB 5 wb1 (.slice (some ⟨zb, 0, none⟩) 0 0) [] := by
      rw [hwb1, hzb1]
      have := World.ownsRow_lit (base := 0) (e := 5) (size := 1) wd #[] 0 (Nat.zero_le _) (by simp [maxLen]) rfl
      simpa [OwB, bvs] using this
    have hKb1 := hkd.andThen hkb1
    have HOb1 := Lib.hid hob1
    have Hzb1 : Hid (w4.heap.size ≤ zb ∧ zb < wb1.heap.size) := Lib.hid (by have h1 : w4.heap.size ≤ wd.heap.size := hkd.size; rw [hwb1]; simp; omega)
    go_wp2
    rw [← hzb1, ← hwb1]
    change _ ∧ wpAnyH _ _ _ _ _ _ _ _ _
    refine ⟨SK.out _ hKb1, ?_⟩
    clear hob1
    refine held_two 3 8 (by kernel_rfl) rfl rfl ?_ ?_
    · refine wpList_append_bytes rfl (.tmp 18) (.tmp 19) 26 rfl 5 i0 _ 1 Tryd.underlying26 hi hz0 hz1 hz2 rfl (.slice (some ⟨zb, 0, none⟩) 0 0) [] rfl HOb1.out A n c b rfl (HR.out.kept0 ((HK1.out.andThen HK14.out).andThen hKb1)) (by simp only [List.length_nil, maxLen]; omega) (by simp only [List.length_nil]; omega) ?_
      intro vp2 wp2 hop2 hkp2 hmp2
      obtain ⟨hKp2, hbp2⟩ := app_new hKb1 (by intro u hu; simp [Value.ownBlock] at hu; have := Hzb1.out.1; omega) hkp2 hmp2
      obtain ⟨AP, nP, cP, rfl, hrp2, _⟩ := hop2.form
      have hrq2 : RdB wp2 AP nP cP b := by simpa using hrp2
      obtain rfl : n = nP := by rw [← hrq2.len, HR.out.len]
      have HP2 := Lib.hid hrq2
      clear hop2 hkp2 hmp2 hrp2 hrq2
      go_wp2
      change _ ∧ wpAnyH _ _ _ _ _ _ _ _ _
      refine ⟨SK.out _ hKp2, ?_⟩
      refine held_two 4 8 (by kernel_rfl) rfl rfl ?_ ?_
      · go_wp2_with fail
        refine (HFh.out.get key AP n cP b _ Hkl.out HP2.out (by omega) (HFh.out.kept HGl.out ((HK1.out.andThen HK14.out).andThen hKp2))).mono ?_
        rw [HG.out]
        rintro e wc3 ⟨AE, nE, cE, rfl, hfc3, hkc3, hbc3⟩
        have hKc3 := hKp2.andThen hkc3
        have HFc3 := Lib.hid hfc3
        obtain ⟨LE, hLE⟩ : ∃ LE, frc f1 AE nE cE = LE := ⟨_, rfl⟩
        have HsE := Lib.hid (frc_size (A := AE) (n := nE) (c := cE) hfc3.obj)
        have HoE := Lib.hid (frc_one f1 AE nE cE)
        have HlE : Hid ((frc fr0 none 0 0).length = (frc f1 AE nE cE).length) := Lib.hid (by rw [frc_length (f := fr0) (by unfold fr0; simp), frc_length hfc3.obj])
        rw [hLE] at HsE HoE HlE
        rw [hLE]
        have HLE := Lib.hid hLE
        clear hfc3 hkc3 hbc3 hLE
        go_wp2
        change _ ∧ wpAnyH _ _ _ _ _ _ _ _ _
        refine ⟨SK.out _ hKc3, ?_⟩
        have hHeld := SK.out _ hKc3
        refine held_pureD 5 16 (Value.tuple #[.agg LE.toArray, .int .i64 (e1 : Int)]) rfl rfl (by kernel_rfl) (by kernel_rfl) (by kernel_rfl) rfl (fun w hS => rfl) hHeld ?_
        simp only [Act.put, List.setIfInBounds_toArray, List.set_cons_succ, List.set_cons_zero]
        have hHeld := SK.out _ hKc3
        refine held_pureD 6 22 (.agg LE.toArray) rfl rfl (by kernel_rfl) (by kernel_rfl) (by kernel_rfl) rfl (fun w hS => rfl) hHeld ?_
        simp only [Act.put, List.setIfInBounds_toArray, List.set_cons_succ, List.set_cons_zero]
        have hHeld := SK.out _ hKc3
        refine held_pureD 7 23 (.int .i64 (e1 : Int)) rfl rfl (by kernel_rfl) (by kernel_rfl) (by kernel_rfl) rfl (fun w hS => rfl) hHeld ?_
        simp only [Act.put, List.setIfInBounds_toArray, List.set_cons_succ, List.set_cons_zero]
        refine held_one 8 (by kernel_rfl) rfl ?_
        refine wpList_alloc_blk rfl 28 rfl _ zeroFr ?_
        intro wa4 hya4 hka4 hsa4
        have hKa4 := hKc3.andThen hka4
        obtain ⟨y, hy4⟩ : ∃ y, y = wc3.heap.size := ⟨_, rfl⟩
        rw [← hy4] at hya4 ⊢
        have HY4 := Lib.hid hya4
        have Hy1 : Hid (w4.heap.size ≤ y) := Lib.hid (by have h1 : w4.heap.size ≤ wc3.heap.size := hKc3.size; omega)
        have HFa4 := Lib.hid (HFc3.out.kept0 hka4)
        have Hoff : Hid (0 < nE → Off AE [y]) := Lib.hid (fun hp => by
          obtain ⟨bb, off, e, hbb, _⟩ := HFc3.out.piece.at_ hp
          subst e
          intro u hu hm
          injection hu with hu
          subst hu
          have := List.mem_singleton.1 hm
          simp at this
          omega)
        clear hy4 hsa4 hya4
        go_wp2
        change _ ∧ wpAnyH _ _ _ _ _ _ _ _ _
        refine ⟨SK.out _ hKa4, ?_⟩
        refine held_one 9 (by kernel_rfl) rfl ?_
        refine wpList_store_blk rfl 28 (.tmp 5) (.tmp 22) rfl y LE rfl rfl 28 _ HY4.out HsE.out HlE.out HoE.out ?_
        intro wE hyE hkE hsE
        have hKE := hKa4.trans hkE (fun i hi => .inr (by have := List.mem_singleton.1 hi; have := Hy1.out; omega))
        have hSE := SK.out _ hKE
        have HYE := Lib.hid hyE
        have HKE : Hid (Kept [] w1 wE) := Lib.hid (HK14.out.andThen hKE)
        have HFE : Hid (FrAt wE f1 AE nE cE) := Lib.hid (HFa4.out.kept hkE Hoff.out)
        clear hyE hkE hsE
        go_wp2
        change _ ∧ wpAnyH _ _ _ _ _ _ _ _ _
        refine ⟨hSE, ?_⟩
        refine held_one 10 (by kernel_rfl) rfl ?_
        go_wp2
        change _ ∧ wpAnyH _ _ _ _ _ _ _ _ _
        refine ⟨hSE, ?_⟩
        refine held_done (by kernel_rfl) ?_
        clear hHeld hSE hKE
        have hA5 := SKa.out _ HKE.out
        go_wp2_with (with_reducible change wpList _ _ _ (⟨_, Op.load 23 (.tmp 2), _, _, _, _⟩ :: _) _ _; refine wpList_load_blk rfl 23 (.tmp 2) rfl a rfl 23 _ _ hA5 arr32b rfl Hsk.out ?_)
        refine (rGt_any key A n c b _ Hkl.out (HR.out.kept0 (HK1.out.andThen HKE.out)) (by omega)).mono ?_
        rw [HG.out]
        rintro e w6 ⟨A6, n6, c6, rfl, hf6, hk6, hb6⟩
        obtain ⟨L6, hL6⟩ : ∃ L6, frc f1 A6 n6 c6 = L6 := ⟨_, rfl⟩
        have Hs6 := Lib.hid (frc_size (A := A6) (n := n6) (c := c6) hf6.obj)
        have Ho6 := Lib.hid (frc_one f1 A6 n6 c6)
        have Hl6 : Hid ((frc fr0 none 0 0).length = (frc f1 A6 n6 c6).length) := Lib.hid (by rw [frc_length (f := fr0) (by unfold fr0; simp), frc_length hf6.obj])
        rw [hL6] at Hs6 Ho6 Hl6
        rw [hL6]
        have HL6 := Lib.hid hL6
        have HF6 := Lib.hid hf6
        have HK16 := Lib.hid (HKE.out.andThen hk6)
        have HY6 := Lib.hid (HYE.out.kept0 hk6)
        have HFE6 := Lib.hid (HFE.out.kept0 hk6)
        clear hf6 hk6 hb6 hL6 hA5 HYE HFE HKE
        go_wp2_with (with_reducible change wpList _ _ _ (⟨_, Op.alloc _, _, _, _, _⟩ :: _) _ _; refine wpList_alloc_blk rfl 28 rfl _ zeroFr ?_)
        intro w7 hO7 hk7 hs7
        obtain ⟨q, hq⟩ : ∃ q, q = w6.heap.size := ⟨_, rfl⟩
        rw [← hq] at hO7 ⊢
        have Hq : Hid (w1.heap.size ≤ q ∧ y < q) := Lib.hid (by have h1 := HK16.out.size; have h2 := HY6.out.lt; omega)
        refine wpList_store_blk rfl 28 (.tmp 7) (.tmp 28) rfl q L6 rfl rfl 28 _ hO7 Hs6.out Hl6.out Ho6.out ?_
        intro w8 hO8 hk8 hs8
        have hKq : Kept [q] w6 w8 := (hk7.mono (T := [q]) (by simp)).trans hk8 (fun i hi => .inl hi)
        have HK18 : Hid (Kept [] w1 w8) := Lib.hid (HK16.out.trans hKq (fun i hi => .inr (by have := List.mem_singleton.1 hi; have := Hq.out; omega)))
        have hO8' := hO8
        have hY8 := HY6.out.kept hKq (by have := Hq.out.2; simp; omega)
        have HFE8 : Hid (FrAt w8 f1 AE nE cE) := Lib.hid (HFE6.out.kept hKq (fun hp => by
          obtain ⟨bb, off, e, hbb, _⟩ := HFE6.out.piece.at_ hp
          subst e
          intro u hu hm
          injection hu with hu
          subst hu
          have := List.mem_singleton.1 hm
          simp at this
          omega))
        have HF8 : Hid (FrAt w8 f1 A6 n6 c6) := Lib.hid (HF6.out.kept hKq (fun hp => by
          obtain ⟨bb, off, e, hbb, _⟩ := HF6.out.piece.at_ hp
          subst e
          intro u hu hm
          injection hu with hu
          subst hu
          have := List.mem_singleton.1 hm
          simp at this
          omega))
        have HFs : Hid (∀ W, FrAt W f1 AE nE cE → FrAt W f1 A6 n6 c6 → Calls Tryd.prog 12 #[.agg LE.toArray, .agg L6.toArray] W fun e w' => e = .returned (.bool true) ∧ Kept [] W w') := Lib.hid (by
          rw [← HLE.out, ← HL6.out]
          intro W h1 h2
          have := rFs_any f1 f1 AE A6 nE cE n6 c6 W h1 h2
          rw [frEq_refl] at this
          exact this)
        have hee : ((e1 : Int) != (e1 : Int)) = false := by simp
        have HY8 := Lib.hid hY8
        clear hO7 hk7 hs7 hk8 hs8 hq HF6 HFE6 HY6 HK16 hKq
        go_wp2_with (first
          | (with_reducible change wpList _ _ _ (⟨_, Op.load 28 (.tmp 5), _, _, _, _⟩ :: _) _ _; refine wpList_load_blk rfl 28 (.tmp 5) rfl y rfl 28 LE _ hY8 Tryd.underlying28 rfl HsE.out ?_)
          | (with_reducible change wpList _ _ _ (⟨_, Op.load 28 (.tmp 7), _, _, _, _⟩ :: _) _ _; refine wpList_load_blk rfl 28 (.tmp 7) rfl q rfl 28 L6 _ hO8' Tryd.underlying28 rfl Hs6.out ?_))
        refine (HFs.out _ HFE8.out HF8.out).mono ?_
        rintro e w9 ⟨rfl, hk9⟩
        have HK19 := Lib.hid (HK18.out.andThen hk9)
        have HY9 := Lib.hid (HY8.out.kept0 hk9)
        have HFE9 := Lib.hid (HFE8.out.kept0 hk9)
        clear hk9 hY8 hO8 hO8' HY8 HFE8 HF8 HK18
        by_cases he : e1 = 0
        · subst he
          obtain ⟨hp1, ho1⟩ := frPut_get HG.out
          have hright : frRight f1 = true := by
            cases hc : frRight f1 with
            | true => rfl
            | false => rw [frPut_no hc] at hp1; simp at hp1
          have Hp1 := Lib.hid hp1
          have HnE : Hid (nE ≤ 100000) := Lib.hid (by rw [← HFE9.out.piece.len]; have := (frRight_facts hright).2.2.2; omega)
          have hA9 := SKa.out _ HK19.out
          have hY9 := HY9.out
          clear hp1 ho1 hright
          go_wp2_with (first
            | (with_reducible change wpList _ _ _ (⟨_, Op.load 23 (.tmp 2), _, _, _, _⟩ :: _) _ _; refine wpList_load_blk rfl 23 (.tmp 2) rfl a rfl 23 _ _ hA9 arr32b rfl Hsk.out ?_)
            | (with_reducible change wpList _ _ _ (⟨_, Op.load 28 (.tmp 5), _, _, _, _⟩ :: _) _ _; refine wpList_load_blk rfl 28 (.tmp 5) rfl y rfl 28 LE _ hY9 Tryd.underlying28 rfl HsE.out ?_))
          rw [← HLE.out]
          refine (HFh.out.put key f1 AE nE cE _ Hkl.out HFE9.out HnE.out (HFh.out.kept HGl.out (HK1.out.andThen HK19.out))).mono ?_
          rw [Hp1.out]
          rintro e w10 ⟨v10, rfl, ho10, hk10, hf10⟩
          obtain ⟨A10, n10, c10, rfl, hr10, _⟩ := ho10.form
          rw [HLE.out]
          have Hr10 := Lib.hid hr10
          have HK110 := Lib.hid (HK19.out.andThen hk10)
          have Hbb : Hid ((b == b) = true) := Lib.hid (by simp)
          clear ho10 hk10 hf10 hr10 hA9 hY9
          go_wp2_with fail
          refine (same_k A10 A n10 n c10 c b b _ Hr10.out (HR.out.kept0 (HK1.out.andThen HK110.out))).mono ?_
          rw [Hbb.out]
          rintro e w11 ⟨rfl, hk11⟩
          have HK11 := Lib.hid ((HK1.out.andThen HK110.out).andThen hk11)
          clear hk11
          go_wp2
          go_ret
          exact ⟨rfl, HK11.out⟩
        · have hne : ((e1 : Int) != 0) = true := by simp; omega
          go_wp2
          go_ret
          exact ⟨rfl, HK1.out.andThen HK19.out⟩
      · refine wpList_alloc_blk rfl 28 rfl _ zeroFr ?_
        intro wa3 hya3 hka3 hsa3
        have hKa3 := hKp2.andThen hka3
        obtain ⟨y, hy3⟩ : ∃ y, y = wp2.heap.size := ⟨_, rfl⟩
        rw [← hy3] at hya3 ⊢
        have HY3 := Lib.hid hya3
        have Hy1 : Hid (w4.heap.size ≤ y) := Lib.hid (by have h1 : w4.heap.size ≤ wp2.heap.size := hKp2.size; omega)
        have HP3 := Lib.hid (HP2.out.kept0 hka3)
        clear hy3 hsa3 hya3
        go_wp2
        change _ ∧ wpAnyH _ _ _ _ _ _ _ _ _
        refine ⟨SK.out _ hKa3, ?_⟩
        refine held_one 4 (by kernel_rfl) rfl ?_
        go_wp2_with fail
        refine (HFh.out.get key AP n cP b _ Hkl.out HP3.out (by omega) (HFh.out.kept HGl.out ((HK1.out.andThen HK14.out).andThen hKa3))).mono ?_
        rw [HG.out]
        rintro e wc5 ⟨AE, nE, cE, rfl, hfc5, hkc5, hbc5⟩
        have hKc5 := hKa3.andThen hkc5
        have HFc5 := Lib.hid hfc5
        have Hoff : Hid (0 < nE → Off AE [y]) := Lib.hid (fun _ => off_ownB (fun u hu hm => by have h1 := List.mem_singleton.1 hm; have h2 := hbc5 u hu; have h3 := HY3.out.lt; omega))
        have HYc5 := Lib.hid (HY3.out.kept0 hkc5)
        obtain ⟨LE, hLE⟩ : ∃ LE, frc f1 AE nE cE = LE := ⟨_, rfl⟩
        have HsE := Lib.hid (frc_size (A := AE) (n := nE) (c := cE) hfc5.obj)
        have HoE := Lib.hid (frc_one f1 AE nE cE)
        have HlE : Hid ((frc fr0 none 0 0).length = (frc f1 AE nE cE).length) := Lib.hid (by rw [frc_length (f := fr0) (by unfold fr0; simp), frc_length hfc5.obj])
        rw [hLE] at HsE HoE HlE
        rw [hLE]
        have HLE := Lib.hid hLE
        clear hfc5 hkc5 hbc5 hLE
        go_wp2
        change _ ∧ wpAnyH _ _ _ _ _ _ _ _ _
        refine ⟨SK.out _ hKc5, ?_⟩
        have hHeld := SK.out _ hKc5
        refine held_pureD 5 16 (Value.tuple #[.agg LE.toArray, .int .i64 (e1 : Int)]) rfl rfl (by kernel_rfl) (by kernel_rfl) (by kernel_rfl) rfl (fun w hS => rfl) hHeld ?_
        simp only [Act.put, List.setIfInBounds_toArray, List.set_cons_succ, List.set_cons_zero]
        have hHeld := SK.out _ hKc5
        refine held_pureD 6 22 (.agg LE.toArray) rfl rfl (by kernel_rfl) (by kernel_rfl) (by kernel_rfl) rfl (fun w hS => rfl) hHeld ?_
        simp only [Act.put, List.setIfInBounds_toArray, List.set_cons_succ, List.set_cons_zero]
        have hHeld := SK.out _ hKc5
        refine held_pureD 7 23 (.int .i64 (e1 : Int)) rfl rfl (by kernel_rfl) (by kernel_rfl) (by kernel_rfl) rfl (fun w hS => rfl) hHeld ?_
        simp only [Act.put, List.setIfInBounds_toArray, List.set_cons_succ, List.set_cons_zero]
        refine held_one 9 (by kernel_rfl) rfl ?_
        refine wpList_store_blk rfl 28 (.tmp 5) (.tmp 22) rfl y LE rfl rfl 28 _ HYc5.out HsE.out HlE.out HoE.out ?_
        intro wE hyE hkE hsE
        have hKE := hKc5.trans hkE (fun i hi => .inr (by have := List.mem_singleton.1 hi; have := Hy1.out; omega))
        have hSE := SK.out _ hKE
        have HYE := Lib.hid hyE
        have HKE : Hid (Kept [] w1 wE) := Lib.hid (HK14.out.andThen hKE)
        have HFE : Hid (FrAt wE f1 AE nE cE) := Lib.hid (HFc5.out.kept hkE Hoff.out)
        clear hyE hkE hsE
        go_wp2
        change _ ∧ wpAnyH _ _ _ _ _ _ _ _ _
        refine ⟨hSE, ?_⟩
        refine held_one 10 (by kernel_rfl) rfl ?_
        go_wp2
        change _ ∧ wpAnyH _ _ _ _ _ _ _ _ _
        refine ⟨hSE, ?_⟩
        refine held_done (by kernel_rfl) ?_
        clear hHeld hSE hKE
        have hA5 := SKa.out _ HKE.out
        go_wp2_with (with_reducible change wpList _ _ _ (⟨_, Op.load 23 (.tmp 2), _, _, _, _⟩ :: _) _ _; refine wpList_load_blk rfl 23 (.tmp 2) rfl a rfl 23 _ _ hA5 arr32b rfl Hsk.out ?_)
        refine (rGt_any key A n c b _ Hkl.out (HR.out.kept0 (HK1.out.andThen HKE.out)) (by omega)).mono ?_
        rw [HG.out]
        rintro e w6 ⟨A6, n6, c6, rfl, hf6, hk6, hb6⟩
        obtain ⟨L6, hL6⟩ : ∃ L6, frc f1 A6 n6 c6 = L6 := ⟨_, rfl⟩
        have Hs6 := Lib.hid (frc_size (A := A6) (n := n6) (c := c6) hf6.obj)
        have Ho6 := Lib.hid (frc_one f1 A6 n6 c6)
        have Hl6 : Hid ((frc fr0 none 0 0).length = (frc f1 A6 n6 c6).length) := Lib.hid (by rw [frc_length (f := fr0) (by unfold fr0; simp), frc_length hf6.obj])
        rw [hL6] at Hs6 Ho6 Hl6
        rw [hL6]
        have HL6 := Lib.hid hL6
        have HF6 := Lib.hid hf6
        have HK16 := Lib.hid (HKE.out.andThen hk6)
        have HY6 := Lib.hid (HYE.out.kept0 hk6)
        have HFE6 := Lib.hid (HFE.out.kept0 hk6)
        clear hf6 hk6 hb6 hL6 hA5 HYE HFE HKE
        go_wp2_with (with_reducible change wpList _ _ _ (⟨_, Op.alloc _, _, _, _, _⟩ :: _) _ _; refine wpList_alloc_blk rfl 28 rfl _ zeroFr ?_)
        intro w7 hO7 hk7 hs7
        obtain ⟨q, hq⟩ : ∃ q, q = w6.heap.size := ⟨_, rfl⟩
        rw [← hq] at hO7 ⊢
        have Hq : Hid (w1.heap.size ≤ q ∧ y < q) := Lib.hid (by have h1 := HK16.out.size; have h2 := HY6.out.lt; omega)
        refine wpList_store_blk rfl 28 (.tmp 7) (.tmp 28) rfl q L6 rfl rfl 28 _ hO7 Hs6.out Hl6.out Ho6.out ?_
        intro w8 hO8 hk8 hs8
        have hKq : Kept [q] w6 w8 := (hk7.mono (T := [q]) (by simp)).trans hk8 (fun i hi => .inl hi)
        have HK18 : Hid (Kept [] w1 w8) := Lib.hid (HK16.out.trans hKq (fun i hi => .inr (by have := List.mem_singleton.1 hi; have := Hq.out; omega)))
        have hO8' := hO8
        have hY8 := HY6.out.kept hKq (by have := Hq.out.2; simp; omega)
        have HFE8 : Hid (FrAt w8 f1 AE nE cE) := Lib.hid (HFE6.out.kept hKq (fun hp => by
          obtain ⟨bb, off, e, hbb, _⟩ := HFE6.out.piece.at_ hp
          subst e
          intro u hu hm
          injection hu with hu
          subst hu
          have := List.mem_singleton.1 hm
          simp at this
          omega))
        have HF8 : Hid (FrAt w8 f1 A6 n6 c6) := Lib.hid (HF6.out.kept hKq (fun hp => by
          obtain ⟨bb, off, e, hbb, _⟩ := HF6.out.piece.at_ hp
          subst e
          intro u hu hm
          injection hu with hu
          subst hu
          have := List.mem_singleton.1 hm
          simp at this
          omega))
        have HFs : Hid (∀ W, FrAt W f1 AE nE cE → FrAt W f1 A6 n6 c6 → Calls Tryd.prog 12 #[.agg LE.toArray, .agg L6.toArray] W fun e w' => e = .returned (.bool true) ∧ Kept [] W w') := Lib.hid (by
          rw [← HLE.out, ← HL6.out]
          intro W h1 h2
          have := rFs_any f1 f1 AE A6 nE cE n6 c6 W h1 h2
          rw [frEq_refl] at this
          exact this)
        have hee : ((e1 : Int) != (e1 : Int)) = false := by simp
        have HY8 := Lib.hid hY8
        clear hO7 hk7 hs7 hk8 hs8 hq HF6 HFE6 HY6 HK16 hKq
        go_wp2_with (first
          | (with_reducible change wpList _ _ _ (⟨_, Op.load 28 (.tmp 5), _, _, _, _⟩ :: _) _ _; refine wpList_load_blk rfl 28 (.tmp 5) rfl y rfl 28 LE _ hY8 Tryd.underlying28 rfl HsE.out ?_)
          | (with_reducible change wpList _ _ _ (⟨_, Op.load 28 (.tmp 7), _, _, _, _⟩ :: _) _ _; refine wpList_load_blk rfl 28 (.tmp 7) rfl q rfl 28 L6 _ hO8' Tryd.underlying28 rfl Hs6.out ?_))
        refine (HFs.out _ HFE8.out HF8.out).mono ?_
        rintro e w9 ⟨rfl, hk9⟩
        have HK19 := Lib.hid (HK18.out.andThen hk9)
        have HY9 := Lib.hid (HY8.out.kept0 hk9)
        have HFE9 := Lib.hid (HFE8.out.kept0 hk9)
        clear hk9 hY8 hO8 hO8' HY8 HFE8 HF8 HK18
        by_cases he : e1 = 0
        · subst he
          obtain ⟨hp1, ho1⟩ := frPut_get HG.out
          have hright : frRight f1 = true := by
            cases hc : frRight f1 with
            | true => rfl
            | false => rw [frPut_no hc] at hp1; simp at hp1
          have Hp1 := Lib.hid hp1
          have HnE : Hid (nE ≤ 100000) := Lib.hid (by rw [← HFE9.out.piece.len]; have := (frRight_facts hright).2.2.2; omega)
          have hA9 := SKa.out _ HK19.out
          have hY9 := HY9.out
          clear hp1 ho1 hright
          go_wp2_with (first
            | (with_reducible change wpList _ _ _ (⟨_, Op.load 23 (.tmp 2), _, _, _, _⟩ :: _) _ _; refine wpList_load_blk rfl 23 (.tmp 2) rfl a rfl 23 _ _ hA9 arr32b rfl Hsk.out ?_)
            | (with_reducible change wpList _ _ _ (⟨_, Op.load 28 (.tmp 5), _, _, _, _⟩ :: _) _ _; refine wpList_load_blk rfl 28 (.tmp 5) rfl y rfl 28 LE _ hY9 Tryd.underlying28 rfl HsE.out ?_))
          rw [← HLE.out]
          refine (HFh.out.put key f1 AE nE cE _ Hkl.out HFE9.out HnE.out (HFh.out.kept HGl.out (HK1.out.andThen HK19.out))).mono ?_
          rw [Hp1.out]
          rintro e w10 ⟨v10, rfl, ho10, hk10, hf10⟩
          obtain ⟨A10, n10, c10, rfl, hr10, _⟩ := ho10.form
          rw [HLE.out]
          have Hr10 := Lib.hid hr10
          have HK110 := Lib.hid (HK19.out.andThen hk10)
          have Hbb : Hid ((b == b) = true) := Lib.hid (by simp)
          clear ho10 hk10 hf10 hr10 hA9 hY9
          go_wp2_with fail
          refine (same_k A10 A n10 n c10 c b b _ Hr10.out (HR.out.kept0 (HK1.out.andThen HK110.out))).mono ?_
          rw [Hbb.out]
          rintro e w11 ⟨rfl, hk11⟩
          have HK11 := Lib.hid ((HK1.out.andThen HK110.out).andThen hk11)
          clear hk11
          go_wp2
          go_ret
          exact ⟨rfl, HK11.out⟩
        · have hne : ((e1 : Int) != 0) = true := by simp; omega
          go_wp2
          go_ret
          exact ⟨rfl, HK1.out.andThen HK19.out⟩
    · refine wpList_alloc_blk rfl 28 rfl _ zeroFr ?_
      intro wa2 hya2 hka2 hsa2
      have hKa2 := hKb1.andThen hka2
      obtain ⟨y, hy2⟩ : ∃ y, y = wb1.heap.size := ⟨_, rfl⟩
      rw [← hy2] at hya2 ⊢
      have HY2 := Lib.hid hya2
      have Hy1 : Hid (w4.heap.size ≤ y) := Lib.hid (by have h1 : w4.heap.size ≤ wb1.heap.size := hKb1.size; omega)
      have HO2 := Lib.hid (HOb1.out.kept0 hka2)
      have Hyz : Hid (y ≠ zb) := Lib.hid (by have h1 := Hzb1.out.2; omega)
      clear hy2 hsa2 hya2
      go_wp2
      change _ ∧ wpAnyH _ _ _ _ _ _ _ _ _
      refine ⟨SK.out _ hKa2, ?_⟩
      refine held_one 3 (by kernel_rfl) rfl ?_
      refine wpList_append_bytes rfl (.tmp 18) (.tmp 19) 26 rfl 5 i0 _ 1 Tryd.underlying26 hi hz0 hz1 hz2 rfl (.slice (some ⟨zb, 0, none⟩) 0 0) [] rfl HO2.out A n c b rfl (HR.out.kept0 ((HK1.out.andThen HK14.out).andThen hKa2)) (by simp only [List.length_nil, maxLen]; omega) (by simp only [List.length_nil]; omega) ?_
      intro vp7 wp7 hop7 hkp7 hmp7
      obtain ⟨hKp7, hbp7⟩ := app_new hKa2 (by intro u hu; simp [Value.ownBlock] at hu; have := Hzb1.out.1; omega) hkp7 hmp7
      obtain ⟨AP, nP, cP, rfl, hrp7, _⟩ := hop7.form
      have hrq7 : RdB wp7 AP nP cP b := by simpa using hrp7
      obtain rfl : n = nP := by rw [← hrq7.len, HR.out.len]
      have HP7 := Lib.hid hrq7
      have HYp7 := Lib.hid (HY2.out.kept hkp7 (by have := Hyz.out; simp [Value.ownBlock]; omega))
      clear hop7 hkp7 hmp7 hrp7 hrq7
      go_wp2
      change _ ∧ wpAnyH _ _ _ _ _ _ _ _ _
      refine ⟨SK.out _ hKp7, ?_⟩
      refine held_one 4 (by kernel_rfl) rfl ?_
      go_wp2_with fail
      refine (HFh.out.get key AP n cP b _ Hkl.out HP7.out (by omega) (HFh.out.kept HGl.out ((HK1.out.andThen HK14.out).andThen hKp7))).mono ?_
      rw [HG.out]
      rintro e wc8 ⟨AE, nE, cE, rfl, hfc8, hkc8, hbc8⟩
      have hKc8 := hKp7.andThen hkc8
      have HFc8 := Lib.hid hfc8
      have Hoff : Hid (0 < nE → Off AE [y]) := Lib.hid (fun _ => off_ownB (fun u hu hm => by have h1 := List.mem_singleton.1 hm; have h2 := hbc8 u hu; have h3 := HYp7.out.lt; omega))
      have HYc8 := Lib.hid (HYp7.out.kept0 hkc8)
      obtain ⟨LE, hLE⟩ : ∃ LE, frc f1 AE nE cE = LE := ⟨_, rfl⟩
      have HsE := Lib.hid (frc_size (A := AE) (n := nE) (c := cE) hfc8.obj)
      have HoE := Lib.hid (frc_one f1 AE nE cE)
      have HlE : Hid ((frc fr0 none 0 0).length = (frc f1 AE nE cE).length) := Lib.hid (by rw [frc_length (f := fr0) (by unfold fr0; simp), frc_length hfc8.obj])
      rw [hLE] at HsE HoE HlE
      rw [hLE]
      have HLE := Lib.hid hLE
      clear hfc8 hkc8 hbc8 hLE
      go_wp2
      change _ ∧ wpAnyH _ _ _ _ _ _ _ _ _
      refine ⟨SK.out _ hKc8, ?_⟩
      have hHeld := SK.out _ hKc8
      refine held_pureD 5 16 (Value.tuple #[.agg LE.toArray, .int .i64 (e1 : Int)]) rfl rfl (by kernel_rfl) (by kernel_rfl) (by kernel_rfl) rfl (fun w hS => rfl) hHeld ?_
      simp only [Act.put, List.setIfInBounds_toArray, List.set_cons_succ, List.set_cons_zero]
      have hHeld := SK.out _ hKc8
      refine held_pureD 6 22 (.agg LE.toArray) rfl rfl (by kernel_rfl) (by kernel_rfl) (by kernel_rfl) rfl (fun w hS => rfl) hHeld ?_
      simp only [Act.put, List.setIfInBounds_toArray, List.set_cons_succ, List.set_cons_zero]
      have hHeld := SK.out _ hKc8
      refine held_pureD 7 23 (.int .i64 (e1 : Int)) rfl rfl (by kernel_rfl) (by kernel_rfl) (by kernel_rfl) rfl (fun w hS => rfl) hHeld ?_
      simp only [Act.put, List.setIfInBounds_toArray, List.set_cons_succ, List.set_cons_zero]
      refine held_one 9 (by kernel_rfl) rfl ?_
      refine wpList_store_blk rfl 28 (.tmp 5) (.tmp 22) rfl y LE rfl rfl 28 _ HYc8.out HsE.out HlE.out HoE.out ?_
      intro wE hyE hkE hsE
      have hKE := hKc8.trans hkE (fun i hi => .inr (by have := List.mem_singleton.1 hi; have := Hy1.out; omega))
      have hSE := SK.out _ hKE
      have HYE := Lib.hid hyE
      have HKE : Hid (Kept [] w1 wE) := Lib.hid (HK14.out.andThen hKE)
      have HFE : Hid (FrAt wE f1 AE nE cE) := Lib.hid (HFc8.out.kept hkE Hoff.out)
      clear hyE hkE hsE
      go_wp2
      change _ ∧ wpAnyH _ _ _ _ _ _ _ _ _
      refine ⟨hSE, ?_⟩
      refine held_one 10 (by kernel_rfl) rfl ?_
      go_wp2
      change _ ∧ wpAnyH _ _ _ _ _ _ _ _ _
      refine ⟨hSE, ?_⟩
      refine held_done (by kernel_rfl) ?_
      clear hHeld hSE hKE
      have hA5 := SKa.out _ HKE.out
      go_wp2_with (with_reducible change wpList _ _ _ (⟨_, Op.load 23 (.tmp 2), _, _, _, _⟩ :: _) _ _; refine wpList_load_blk rfl 23 (.tmp 2) rfl a rfl 23 _ _ hA5 arr32b rfl Hsk.out ?_)
      refine (rGt_any key A n c b _ Hkl.out (HR.out.kept0 (HK1.out.andThen HKE.out)) (by omega)).mono ?_
      rw [HG.out]
      rintro e w6 ⟨A6, n6, c6, rfl, hf6, hk6, hb6⟩
      obtain ⟨L6, hL6⟩ : ∃ L6, frc f1 A6 n6 c6 = L6 := ⟨_, rfl⟩
      have Hs6 := Lib.hid (frc_size (A := A6) (n := n6) (c := c6) hf6.obj)
      have Ho6 := Lib.hid (frc_one f1 A6 n6 c6)
      have Hl6 : Hid ((frc fr0 none 0 0).length = (frc f1 A6 n6 c6).length) := Lib.hid (by rw [frc_length (f := fr0) (by unfold fr0; simp), frc_length hf6.obj])
      rw [hL6] at Hs6 Ho6 Hl6
      rw [hL6]
      have HL6 := Lib.hid hL6
      have HF6 := Lib.hid hf6
      have HK16 := Lib.hid (HKE.out.andThen hk6)
      have HY6 := Lib.hid (HYE.out.kept0 hk6)
      have HFE6 := Lib.hid (HFE.out.kept0 hk6)
      clear hf6 hk6 hb6 hL6 hA5 HYE HFE HKE
      go_wp2_with (with_reducible change wpList _ _ _ (⟨_, Op.alloc _, _, _, _, _⟩ :: _) _ _; refine wpList_alloc_blk rfl 28 rfl _ zeroFr ?_)
      intro w7 hO7 hk7 hs7
      obtain ⟨q, hq⟩ : ∃ q, q = w6.heap.size := ⟨_, rfl⟩
      rw [← hq] at hO7 ⊢
      have Hq : Hid (w1.heap.size ≤ q ∧ y < q) := Lib.hid (by have h1 := HK16.out.size; have h2 := HY6.out.lt; omega)
      refine wpList_store_blk rfl 28 (.tmp 7) (.tmp 28) rfl q L6 rfl rfl 28 _ hO7 Hs6.out Hl6.out Ho6.out ?_
      intro w8 hO8 hk8 hs8
      have hKq : Kept [q] w6 w8 := (hk7.mono (T := [q]) (by simp)).trans hk8 (fun i hi => .inl hi)
      have HK18 : Hid (Kept [] w1 w8) := Lib.hid (HK16.out.trans hKq (fun i hi => .inr (by have := List.mem_singleton.1 hi; have := Hq.out; omega)))
      have hO8' := hO8
      have hY8 := HY6.out.kept hKq (by have := Hq.out.2; simp; omega)
      have HFE8 : Hid (FrAt w8 f1 AE nE cE) := Lib.hid (HFE6.out.kept hKq (fun hp => by
        obtain ⟨bb, off, e, hbb, _⟩ := HFE6.out.piece.at_ hp
        subst e
        intro u hu hm
        injection hu with hu
        subst hu
        have := List.mem_singleton.1 hm
        simp at this
        omega))
      have HF8 : Hid (FrAt w8 f1 A6 n6 c6) := Lib.hid (HF6.out.kept hKq (fun hp => by
        obtain ⟨bb, off, e, hbb, _⟩ := HF6.out.piece.at_ hp
        subst e
        intro u hu hm
        injection hu with hu
        subst hu
        have := List.mem_singleton.1 hm
        simp at this
        omega))
      have HFs : Hid (∀ W, FrAt W f1 AE nE cE → FrAt W f1 A6 n6 c6 → Calls Tryd.prog 12 #[.agg LE.toArray, .agg L6.toArray] W fun e w' => e = .returned (.bool true) ∧ Kept [] W w') := Lib.hid (by
        rw [← HLE.out, ← HL6.out]
        intro W h1 h2
        have := rFs_any f1 f1 AE A6 nE cE n6 c6 W h1 h2
        rw [frEq_refl] at this
        exact this)
      have hee : ((e1 : Int) != (e1 : Int)) = false := by simp
      have HY8 := Lib.hid hY8
      clear hO7 hk7 hs7 hk8 hs8 hq HF6 HFE6 HY6 HK16 hKq
      go_wp2_with (first
        | (with_reducible change wpList _ _ _ (⟨_, Op.load 28 (.tmp 5), _, _, _, _⟩ :: _) _ _; refine wpList_load_blk rfl 28 (.tmp 5) rfl y rfl 28 LE _ hY8 Tryd.underlying28 rfl HsE.out ?_)
        | (with_reducible change wpList _ _ _ (⟨_, Op.load 28 (.tmp 7), _, _, _, _⟩ :: _) _ _; refine wpList_load_blk rfl 28 (.tmp 7) rfl q rfl 28 L6 _ hO8' Tryd.underlying28 rfl Hs6.out ?_))
      refine (HFs.out _ HFE8.out HF8.out).mono ?_
      rintro e w9 ⟨rfl, hk9⟩
      have HK19 := Lib.hid (HK18.out.andThen hk9)
      have HY9 := Lib.hid (HY8.out.kept0 hk9)
      have HFE9 := Lib.hid (HFE8.out.kept0 hk9)
      clear hk9 hY8 hO8 hO8' HY8 HFE8 HF8 HK18
      by_cases he : e1 = 0
      · subst he
        obtain ⟨hp1, ho1⟩ := frPut_get HG.out
        have hright : frRight f1 = true := by
          cases hc : frRight f1 with
          | true => rfl
          | false => rw [frPut_no hc] at hp1; simp at hp1
        have Hp1 := Lib.hid hp1
        have HnE : Hid (nE ≤ 100000) := Lib.hid (by rw [← HFE9.out.piece.len]; have := (frRight_facts hright).2.2.2; omega)
        have hA9 := SKa.out _ HK19.out
        have hY9 := HY9.out
        clear hp1 ho1 hright
        go_wp2_with (first
          | (with_reducible change wpList _ _ _ (⟨_, Op.load 23 (.tmp 2), _, _, _, _⟩ :: _) _ _; refine wpList_load_blk rfl 23 (.tmp 2) rfl a rfl 23 _ _ hA9 arr32b rfl Hsk.out ?_)
          | (with_reducible change wpList _ _ _ (⟨_, Op.load 28 (.tmp 5), _, _, _, _⟩ :: _) _ _; refine wpList_load_blk rfl 28 (.tmp 5) rfl y rfl 28 LE _ hY9 Tryd.underlying28 rfl HsE.out ?_))
        rw [← HLE.out]
        refine (HFh.out.put key f1 AE nE cE _ Hkl.out HFE9.out HnE.out (HFh.out.kept HGl.out (HK1.out.andThen HK19.out))).mono ?_
        rw [Hp1.out]
        rintro e w10 ⟨v10, rfl, ho10, hk10, hf10⟩
        obtain ⟨A10, n10, c10, rfl, hr10, _⟩ := ho10.form
        rw [HLE.out]
        have Hr10 := Lib.hid hr10
        have HK110 := Lib.hid (HK19.out.andThen hk10)
        have Hbb : Hid ((b == b) = true) := Lib.hid (by simp)
        clear ho10 hk10 hf10 hr10 hA9 hY9
        go_wp2_with fail
        refine (same_k A10 A n10 n c10 c b b _ Hr10.out (HR.out.kept0 (HK1.out.andThen HK110.out))).mono ?_
        rw [Hbb.out]
        rintro e w11 ⟨rfl, hk11⟩
        have HK11 := Lib.hid ((HK1.out.andThen HK110.out).andThen hk11)
        clear hk11
        go_wp2
        go_ret
        exact ⟨rfl, HK11.out⟩
      · have hne : ((e1 : Int) != 0) = true := by simp; omega
        go_wp2
        go_ret
        exact ⟨rfl, HK1.out.andThen HK19.out⟩
  · refine wpList_alloc_blk rfl 28 rfl _ zeroFr ?_
    intro wa1 hya1 hka1 hsa1
    have hKa1 := hkd.andThen hka1
    obtain ⟨y, hy1⟩ : ∃ y, y = wd.heap.size := ⟨_, rfl⟩
    rw [← hy1] at hya1 ⊢
    have HY1 := Lib.hid hya1
    have Hy1 : Hid (w4.heap.size ≤ y) := Lib.hid (by have h1 : w4.heap.size ≤ wd.heap.size := hkd.size; omega)
    clear hy1 hsa1 hya1
    go_wp2
    change _ ∧ wpAnyH _ _ _ _ _ _ _ _ _
    refine ⟨SK.out _ hKa1, ?_⟩
    refine held_one 1 (by kernel_rfl) rfl ?_
    obtain ⟨wb10, hwb10⟩ : ∃ wb, wb = wa1.alloc (.cells #[] 5) := ⟨_, rfl⟩
    obtain ⟨zb, hzb10⟩ : ∃ zb, zb = wa1.heap.size := ⟨_, rfl⟩
    have hkb10 : Kept [] wa1 wb10 := by rw [hwb10]; exact (Kept.refl [] _).alloc _
    have hob10 : OwB 5 wb10 (.slice (some ⟨zb, 0, none⟩) 0 0) [] := by
      rw [hwb10, hzb10]
      have := World.ownsRow_lit (base := 0) (e := 5) (size := 1) wa1 #[] 0 (Nat.zero_le _) (by simp [maxLen]) rfl
      simpa [OwB, bvs] using this
    have hKb10 := hKa1.andThen hkb10
    have HOb10 := Lib.hid hob10
    have Hzb10 : Hid (w4.heap.size ≤ zb ∧ zb < wb10.heap.size) := Lib.hid (by have h1 : w4.heap.size ≤ wa1.heap.size := hKa1.size; rw [hwb10]; simp; omega)
    have HYb10 := Lib.hid (HY1.out.kept0 hkb10)
    have Hyz : Hid (y ≠ zb) := Lib.hid (by have h1 := HY1.out.lt; omega)
    go_wp2
    rw [← hzb10, ← hwb10]
    change _ ∧ wpAnyH _ _ _ _ _ _ _ _ _
    refine ⟨SK.out _ hKb10, ?_⟩
    clear hob10
    refine held_one 3 (by kernel_rfl) rfl ?_
    refine wpList_append_bytes rfl (.tmp 18) (.tmp 19) 26 rfl 5 i0 _ 1 Tryd.underlying26 hi hz0 hz1 hz2 rfl (.slice (some ⟨zb, 0, none⟩) 0 0) [] rfl HOb10.out A n c b rfl (HR.out.kept0 ((HK1.out.andThen HK14.out).andThen hKb10)) (by simp only [List.length_nil, maxLen]; omega) (by simp only [List.length_nil]; omega) ?_
    intro vp11 wp11 hop11 hkp11 hmp11
    obtain ⟨hKp11, hbp11⟩ := app_new hKb10 (by intro u hu; simp [Value.ownBlock] at hu; have := Hzb10.out.1; omega) hkp11 hmp11
    obtain ⟨AP, nP, cP, rfl, hrp11, _⟩ := hop11.form
    have hrq11 : RdB wp11 AP nP cP b := by simpa using hrp11
    obtain rfl : n = nP := by rw [← hrq11.len, HR.out.len]
    have HP11 := Lib.hid hrq11
    have HYp11 := Lib.hid (HYb10.out.kept hkp11 (by have := Hyz.out; simp [Value.ownBlock]; omega))
    clear hop11 hkp11 hmp11 hrp11 hrq11
    go_wp2
    change _ ∧ wpAnyH _ _ _ _ _ _ _ _ _
    refine ⟨SK.out _ hKp11, ?_⟩
    refine held_one 4 (by kernel_rfl) rfl ?_
    go_wp2_with fail
    refine (HFh.out.get key AP n cP b _ Hkl.out HP11.out (by omega) (HFh.out.kept HGl.out ((HK1.out.andThen HK14.out).andThen hKp11))).mono ?_
    rw [HG.out]
    rintro e wc12 ⟨AE, nE, cE, rfl, hfc12, hkc12, hbc12⟩
    have hKc12 := hKp11.andThen hkc12
    have HFc12 := Lib.hid hfc12
    have Hoff : Hid (0 < nE → Off AE [y]) := Lib.hid (fun _ => off_ownB (fun u hu hm => by have h1 := List.mem_singleton.1 hm; have h2 := hbc12 u hu; have h3 := HYp11.out.lt; omega))
    have HYc12 := Lib.hid (HYp11.out.kept0 hkc12)
    obtain ⟨LE, hLE⟩ : ∃ LE, frc f1 AE nE cE = LE := ⟨_, rfl⟩
    have HsE := Lib.hid (frc_size (A := AE) (n := nE) (c := cE) hfc12.obj)
    have HoE := Lib.hid (frc_one f1 AE nE cE)
    have HlE : Hid ((frc fr0 none 0 0).length = (frc f1 AE nE cE).length) := Lib.hid (by rw [frc_length (f := fr0) (by unfold fr0; simp), frc_length hfc12.obj])
    rw [hLE] at HsE HoE HlE
    rw [hLE]
    have HLE := Lib.hid hLE
    clear hfc12 hkc12 hbc12 hLE
    go_wp2
    change _ ∧ wpAnyH _ _ _ _ _ _ _ _ _
    refine ⟨SK.out _ hKc12, ?_⟩
    have hHeld := SK.out _ hKc12
    refine held_pureD 5 16 (Value.tuple #[.agg LE.toArray, .int .i64 (e1 : Int)]) rfl rfl (by kernel_rfl) (by kernel_rfl) (by kernel_rfl) rfl (fun w hS => rfl) hHeld ?_
    simp only [Act.put, List.setIfInBounds_toArray, List.set_cons_succ, List.set_cons_zero]
    have hHeld := SK.out _ hKc12
    refine held_pureD 6 22 (.agg LE.toArray) rfl rfl (by kernel_rfl) (by kernel_rfl) (by kernel_rfl) rfl (fun w hS => rfl) hHeld ?_
    simp only [Act.put, List.setIfInBounds_toArray, List.set_cons_succ, List.set_cons_zero]
    have hHeld := SK.out _ hKc12
    refine held_pureD 7 23 (.int .i64 (e1 : Int)) rfl rfl (by kernel_rfl) (by kernel_rfl) (by kernel_rfl) rfl (fun w hS => rfl) hHeld ?_
    simp only [Act.put, List.setIfInBounds_toArray, List.set_cons_succ, List.set_cons_zero]
    refine held_one 9 (by kernel_rfl) rfl ?_
    refine wpList_store_blk rfl 28 (.tmp 5) (.tmp 22) rfl y LE rfl rfl 28 _ HYc12.out HsE.out HlE.out HoE.out ?_
    intro wE hyE hkE hsE
    have hKE := hKc12.trans hkE (fun i hi => .inr (by have := List.mem_singleton.1 hi; have := Hy1.out; omega))
    have hSE := SK.out _ hKE
    have HYE := Lib.hid hyE
    have HKE : Hid (Kept [] w1 wE) := Lib.hid (HK14.out.andThen hKE)
    have HFE : Hid (FrAt wE f1 AE nE cE) := Lib.hid (HFc12.out.kept hkE Hoff.out)
    clear hyE hkE hsE
    go_wp2
    change _ ∧ wpAnyH _ _ _ _ _ _ _ _ _
    refine ⟨hSE, ?_⟩
    refine held_one 10 (by kernel_rfl) rfl ?_
    go_wp2
    change _ ∧ wpAnyH _ _ _ _ _ _ _ _ _
    refine ⟨hSE, ?_⟩
    refine held_done (by kernel_rfl) ?_
    clear hHeld hSE hKE
    have hA5 := SKa.out _ HKE.out
    go_wp2_with (with_reducible change wpList _ _ _ (⟨_, Op.load 23 (.tmp 2), _, _, _, _⟩ :: _) _ _; refine wpList_load_blk rfl 23 (.tmp 2) rfl a rfl 23 _ _ hA5 arr32b rfl Hsk.out ?_)
    refine (rGt_any key A n c b _ Hkl.out (HR.out.kept0 (HK1.out.andThen HKE.out)) (by omega)).mono ?_
    rw [HG.out]
    rintro e w6 ⟨A6, n6, c6, rfl, hf6, hk6, hb6⟩
    obtain ⟨L6, hL6⟩ : ∃ L6, frc f1 A6 n6 c6 = L6 := ⟨_, rfl⟩
    have Hs6 := Lib.hid (frc_size (A := A6) (n := n6) (c := c6) hf6.obj)
    have Ho6 := Lib.hid (frc_one f1 A6 n6 c6)
    have Hl6 : Hid ((frc fr0 none 0 0).length = (frc f1 A6 n6 c6).length) := Lib.hid (by rw [frc_length (f := fr0) (by unfold fr0; simp), frc_length hf6.obj])
    rw [hL6] at Hs6 Ho6 Hl6
    rw [hL6]
    have HL6 := Lib.hid hL6
    have HF6 := Lib.hid hf6
    have HK16 := Lib.hid (HKE.out.andThen hk6)
    have HY6 := Lib.hid (HYE.out.kept0 hk6)
    have HFE6 := Lib.hid (HFE.out.kept0 hk6)
    clear hf6 hk6 hb6 hL6 hA5 HYE HFE HKE
    go_wp2_with (with_reducible change wpList _ _ _ (⟨_, Op.alloc _, _, _, _, _⟩ :: _) _ _; refine wpList_alloc_blk rfl 28 rfl _ zeroFr ?_)
    intro w7 hO7 hk7 hs7
    obtain ⟨q, hq⟩ : ∃ q, q = w6.heap.size := ⟨_, rfl⟩
    rw [← hq] at hO7 ⊢
    have Hq : Hid (w1.heap.size ≤ q ∧ y < q) := Lib.hid (by have h1 := HK16.out.size; have h2 := HY6.out.lt; omega)
    refine wpList_store_blk rfl 28 (.tmp 7) (.tmp 28) rfl q L6 rfl rfl 28 _ hO7 Hs6.out Hl6.out Ho6.out ?_
    intro w8 hO8 hk8 hs8
    have hKq : Kept [q] w6 w8 := (hk7.mono (T := [q]) (by simp)).trans hk8 (fun i hi => .inl hi)
    have HK18 : Hid (Kept [] w1 w8) := Lib.hid (HK16.out.trans hKq (fun i hi => .inr (by have := List.mem_singleton.1 hi; have := Hq.out; omega)))
    have hO8' := hO8
    have hY8 := HY6.out.kept hKq (by have := Hq.out.2; simp; omega)
    have HFE8 : Hid (FrAt w8 f1 AE nE cE) := Lib.hid (HFE6.out.kept hKq (fun hp => by
      obtain ⟨bb, off, e, hbb, _⟩ := HFE6.out.piece.at_ hp
      subst e
      intro u hu hm
      injection hu with hu
      subst hu
      have := List.mem_singleton.1 hm
      simp at this
      omega))
    have HF8 : Hid (FrAt w8 f1 A6 n6 c6) := Lib.hid (HF6.out.kept hKq (fun hp => by
      obtain ⟨bb, off, e, hbb, _⟩ := HF6.out.piece.at_ hp
      subst e
      intro u hu hm
      injection hu with hu
      subst hu
      have := List.mem_singleton.1 hm
      simp at this
      omega))
    have HFs : Hid (∀ W, FrAt W f1 AE nE cE → FrAt W f1 A6 n6 c6 → Calls Tryd.prog 12 #[.agg LE.toArray, .agg L6.toArray] W fun e w' => e = .returned (.bool true) ∧ Kept [] W w') := Lib.hid (by
      rw [← HLE.out, ← HL6.out]
      intro W h1 h2
      have := rFs_any f1 f1 AE A6 nE cE n6 c6 W h1 h2
      rw [frEq_refl] at this
      exact this)
    have hee : ((e1 : Int) != (e1 : Int)) = false := by simp
    have HY8 := Lib.hid hY8
    clear hO7 hk7 hs7 hk8 hs8 hq HF6 HFE6 HY6 HK16 hKq
    go_wp2_with (first
      | (with_reducible change wpList _ _ _ (⟨_, Op.load 28 (.tmp 5), _, _, _, _⟩ :: _) _ _; refine wpList_load_blk rfl 28 (.tmp 5) rfl y rfl 28 LE _ hY8 Tryd.underlying28 rfl HsE.out ?_)
      | (with_reducible change wpList _ _ _ (⟨_, Op.load 28 (.tmp 7), _, _, _, _⟩ :: _) _ _; refine wpList_load_blk rfl 28 (.tmp 7) rfl q rfl 28 L6 _ hO8' Tryd.underlying28 rfl Hs6.out ?_))
    refine (HFs.out _ HFE8.out HF8.out).mono ?_
    rintro e w9 ⟨rfl, hk9⟩
    have HK19 := Lib.hid (HK18.out.andThen hk9)
    have HY9 := Lib.hid (HY8.out.kept0 hk9)
    have HFE9 := Lib.hid (HFE8.out.kept0 hk9)
    clear hk9 hY8 hO8 hO8' HY8 HFE8 HF8 HK18
    by_cases he : e1 = 0
    · subst he
      obtain ⟨hp1, ho1⟩ := frPut_get HG.out
      have hright : frRight f1 = true := by
        cases hc : frRight f1 with
        | true => rfl
        | false => rw [frPut_no hc] at hp1; simp at hp1
      have Hp1 := Lib.hid hp1
      have HnE : Hid (nE ≤ 100000) := Lib.hid (by rw [← HFE9.out.piece.len]; have := (frRight_facts hright).2.2.2; omega)
      have hA9 := SKa.out _ HK19.out
      have hY9 := HY9.out
      clear hp1 ho1 hright
      go_wp2_with (first
        | (with_reducible change wpList _ _ _ (⟨_, Op.load 23 (.tmp 2), _, _, _, _⟩ :: _) _ _; refine wpList_load_blk rfl 23 (.tmp 2) rfl a rfl 23 _ _ hA9 arr32b rfl Hsk.out ?_)
        | (with_reducible change wpList _ _ _ (⟨_, Op.load 28 (.tmp 5), _, _, _, _⟩ :: _) _ _; refine wpList_load_blk rfl 28 (.tmp 5) rfl y rfl 28 LE _ hY9 Tryd.underlying28 rfl HsE.out ?_))
      rw [← HLE.out]
      refine (HFh.out.put key f1 AE nE cE _ Hkl.out HFE9.out HnE.out (HFh.out.kept HGl.out (HK1.out.andThen HK19.out))).mono ?_
      rw [Hp1.out]
      rintro e w10 ⟨v10, rfl, ho10, hk10, hf10⟩
      obtain ⟨A10, n10, c10, rfl, hr10, _⟩ := ho10.form
      rw [HLE.out]
      have Hr10 := Lib.hid hr10
      have HK110 := Lib.hid (HK19.out.andThen hk10)
      have Hbb : Hid ((b == b) = true) := Lib.hid (by simp)
      clear ho10 hk10 hf10 hr10 hA9 hY9
      go_wp2_with fail
      refine (same_k A10 A n10 n c10 c b b _ Hr10.out (HR.out.kept0 (HK1.out.andThen HK110.out))).mono ?_
      rw [Hbb.out]
      rintro e w11 ⟨rfl, hk11⟩
      have HK11 := Lib.hid ((HK1.out.andThen HK110.out).andThen hk11)
      clear hk11
      go_wp2
      go_ret
      exact ⟨rfl, HK11.out⟩
    · have hne : ((e1 : Int) != 0) = true := by simp; omega
      go_wp2
      go_ret
      exact ⟨rfl, HK1.out.andThen HK19.out⟩
end Go.Proofs.YtibcjbelcplpjaaDoor
