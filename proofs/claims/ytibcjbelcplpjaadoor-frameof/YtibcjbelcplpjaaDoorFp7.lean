/-
  Contract of layer 13 (frame): a frame's bytes, with the tag. No statement of the seed is proved here.
-/
import Derived.Test.YtibcjbelcplpjaaDoorFp5
import Derived.Test.YtibcjbelcplpjaaDoorFp6
import Derived.Test.YtibcjbelcplpjaaDoorFp1
import Derived.Test.YtibcjbelcplpjaaDoorFpM
import Derived.Test.YtibcjbelcplpjaaDoorBin4t
import Derived.Test.YtibcjbelcplpjaaDoorBin2n
import Derived.Test.YtibcjbelcplpjaaDoorPe
import Derived.Test.YtibcjbelcplpjaaDoorPd
import Derived.Test.YtibcjbelcplpjaaDoorHeldQ
import Derived.BigRegion
namespace Go.Proofs.YtibcjbelcplpjaaDoor
open Go.RowKit
set_option linter.unusedVariables false

theorem off_old {A : Option Addr} {n c : Nat} {bs : List UInt8} {w : World} (h : RdB w A n c bs) {F : List Nat} (hF : ∀ k, k ∈ F → w.heap.size ≤ k) (hn : 0 < n) : Off A F := by
  intro a ha hm
  obtain ⟨b, off, e, hb, _⟩ := h.at_ hn
  rw [ha] at e
  injection e with e
  subst e
  have := hF _ hm
  simp at this
  omega
set_option maxRecDepth 100000 in
set_option maxHeartbeats 4000000 in
theorem fput_no (key : List UInt8) (f : Fr) (A : Option Addr) (n c : Nat) (w : World) (h : FrAt w f A n c) (hr : frRight f = false) :
    Calls Tryd.prog 22 #[.agg (bvs key).toArray, .agg (frc f A n c).toArray] w fun e w' => Throw 14 e ∧ Kept [] w w' := by
  obtain ⟨w1, hw1⟩ : ∃ w1, w1 = w.alloc (.cells (bvs key).toArray 23) := ⟨_, rfl⟩
  obtain ⟨w2, hw2⟩ : ∃ w2, w2 = w1.alloc (.cells (frc f A n c).toArray 28) := ⟨_, rfl⟩
  obtain ⟨a, ha⟩ : ∃ a, a = w.heap.size := ⟨_, rfl⟩
  obtain ⟨g, hg⟩ : ∃ g, g = w1.heap.size := ⟨_, rfl⟩
  have hk1 : Kept [] w w1 := by rw [hw1]; exact (Kept.refl [] w).alloc _
  have hk2 : Kept [] w1 w2 := by rw [hw2]; exact (Kept.refl [] w1).alloc _
  have hG : FrB w2 g f A n c := by rw [hw2, hg]; exact FrB.new w1 f A n c h.obj
  have HG := Lib.hid hG.blk
  have HK2 := Lib.hid (hk1.andThen hk2)
  have HFA := Lib.hid h
  have Hsf := Lib.hid (frc_size (A := A) (n := n) (c := c) h.obj)
  have W1 := Lib.hid hw1
  have W2 := Lib.hid hw2
  have A0 := Lib.hid ha
  have G0 := Lib.hid hg
  have HRi : Hid (∀ W, FrAt W f A n c → Calls Tryd.prog 13 #[.agg (frc f A n c).toArray] W fun e w' => e = .returned (.bool false) ∧ Kept [] W w') := Lib.hid (fun W hW => by rw [← hr]; exact fRi_any f A n c W hW)
  obtain ⟨L, hL⟩ : ∃ L, frc f A n c = L := ⟨_, rfl⟩
  rw [hL] at HG Hsf W2 HRi ⊢
  clear hw1 hw2 ha hg hk1 hk2 hG h hL hr
  go_enter Tryd.func22, Tryd.ntmps22
  go_wp2_with (first
    | (with_reducible change wpList _ _ _ (⟨_, Op.box 23 _, _, _, _, _⟩ :: _) _ _; refine Great.wpList_boxTo rfl 23 _ rfl _ rfl a A0.out.symm (bvs key).toArray rfl ?_; rw [← W1.out])
    | (with_reducible change wpList _ _ _ (⟨_, Op.box 28 _, _, _, _, _⟩ :: _) _ _; refine Great.wpList_boxTo rfl 28 _ rfl _ rfl g G0.out.symm L.toArray rfl ?_; rw [← W2.out])
    | (with_reducible change wpList _ _ _ (⟨_, Op.load _ _, _, _, _, _⟩ :: _) _ _; refine wpList_load_blk rfl 28 (.tmp 3) rfl g rfl 28 _ _ HG.out Tryd.underlying28 rfl Hsf.out ?_))
  refine (HRi.out _ (HFA.out.kept0 HK2.out)).mono ?_
  rintro e w3 ⟨rfl, hk3⟩
  go_wp2
  exact ⟨rfl, rfl, HK2.out.andThen hk3⟩

set_option maxRecDepth 100000 in
set_option maxHeartbeats 8000000 in
theorem fput_yes (key : List UInt8) (f : Fr) (A : Option Addr) (n c : Nat) (w : World) (hkl : key.length = 32) (h : FrAt w f A n c) (hr : frRight f = true) (hgl : Glob w) :
    Calls Tryd.prog 22 #[.agg (bvs key).toArray, .agg (frc f A n c).toArray] w (CloneRet (frPlain f ++ hTag key (frPlain f)) w) := by
  obtain ⟨w1, hw1⟩ : ∃ w1, w1 = w.alloc (.cells (bvs key).toArray 23) := ⟨_, rfl⟩
  obtain ⟨w2, hw2⟩ : ∃ w2, w2 = w1.alloc (.cells (frc f A n c).toArray 28) := ⟨_, rfl⟩
  obtain ⟨a, ha⟩ : ∃ a, a = w.heap.size := ⟨_, rfl⟩
  obtain ⟨g, hg⟩ : ∃ g, g = w1.heap.size := ⟨_, rfl⟩
  have hA : Blk w1 a 23 (bvs key) := by rw [hw1, ha]; exact Blk.new w 23 (bvs key)
  have hk1 : Kept [] w w1 := by rw [hw1]; exact (Kept.refl [] w).alloc _
  have hk2 : Kept [] w1 w2 := by rw [hw2]; exact (Kept.refl [] w1).alloc _
  have hG : FrB w2 g f A n c := by rw [hw2, hg]; exact FrB.new w1 f A n c h.obj
  have HA := Lib.hid (hA.kept0 hk2)
  have HG := Lib.hid hG
  have HK2 := Lib.hid (hk1.andThen hk2)
  have HFA := Lib.hid h
  have Hsk := Lib.hid (size_of_len (P := Tryd.prog) (ty := 23) size32 hkl)
  have Hsf := Lib.hid (frc_size (A := A) (n := n) (c := c) h.obj)
  have Hkl := Lib.hid hkl
  have W1 := Lib.hid hw1
  have W2 := Lib.hid hw2
  have A0 := Lib.hid ha
  have G0 := Lib.hid hg
  have Hrr := Lib.hid hr
  have Hgl := Lib.hid hgl
  have Hol := Lib.hid h.obj
  have Hnn : Hid (n ≤ 1072) := Lib.hid (by rw [← h.piece.len]; exact (frRight_facts hr).2.2.2)
  have HRi : Hid (∀ W, FrAt W f A n c → Calls Tryd.prog 13 #[.agg (frc f A n c).toArray] W fun e w' => e = .returned (.bool true) ∧ Kept [] W w') := Lib.hid (fun W hW => by rw [← hr]; exact fRi_any f A n c W hW)
  obtain ⟨L, hL⟩ : ∃ L, frc f A n c = L := ⟨_, rfl⟩
  have HGB : Hid (Blk w2 g 28 L) := Lib.hid (by rw [← hL]; exact hG.blk)
  have HSO : Hid ((Tryd.prog.info? 25).map (·.size) = some (bvs f.obj).length) := Lib.hid (size_of_len (P := Tryd.prog) (ty := 25) sizeId h.obj)
  have HL := Lib.hid hL
  rw [hL] at Hsf W2 HRi ⊢
  obtain ⟨X, hX⟩ : ∃ X, frPlain f = X := ⟨_, rfl⟩
  have HX : Hid (X = (be 1 241 ++ f.obj) ++ numB f 4 ++ (sm n ++ f.piece)) := Lib.hid (by rw [← hX, frPlain_steps, h.piece.len])
  have HXl : Hid (X.length ≤ 1200) := Lib.hid (by
    rw [← hX, frPlain_length h.obj]
    have := (frRight_facts hr).2.2.2
    have hf : fol f.piece.length ≤ 8 := by unfold fol; split; omega; exact (wid_pos _).2
    omega)
  rw [hX]
  clear hw1 hw2 ha hg hA hk1 hk2 hG h hkl hL hr hgl hX
  go_enter Tryd.func22, Tryd.ntmps22
  go_wp2_with (first
    | (with_reducible change wpList _ _ _ (⟨_, Op.box 23 _, _, _, _, _⟩ :: _) _ _; refine Great.wpList_boxTo rfl 23 _ rfl _ rfl a A0.out.symm (bvs key).toArray rfl ?_; rw [← W1.out])
    | (with_reducible change wpList _ _ _ (⟨_, Op.box 28 _, _, _, _, _⟩ :: _) _ _; refine Great.wpList_boxTo rfl 28 _ rfl _ rfl g G0.out.symm L.toArray rfl ?_; rw [← W2.out])
    | (with_reducible change wpList _ _ _ (⟨_, Op.load _ _, _, _, _, _⟩ :: _) _ _; refine wpList_load_blk rfl 28 (.tmp 3) rfl g rfl 28 _ _ HGB.out Tryd.underlying28 rfl Hsf.out ?_))
  refine (HRi.out _ (HFA.out.kept0 HK2.out)).mono ?_
  rintro e w3 ⟨rfl, hk3⟩
  have hW3 := Wri.new w3
  obtain ⟨w4, hw4⟩ : ∃ w4, w4 = w3.alloc (.cells #[.slice none 0 0] 67) := ⟨_, rfl⟩
  obtain ⟨p, hp⟩ : ∃ p, p = w3.heap.size := ⟨_, rfl⟩
  rw [← hw4, ← hp] at hW3
  have W4 := Lib.hid hw4
  have P0 := Lib.hid hp
  have HK3 := Lib.hid (HK2.out.andThen hk3)
  have Hp2 : Hid (w2.heap.size ≤ p) := Lib.hid (by have := hk3.size; omega)
  have HK4 := Lib.hid (hk3.andThen (show Kept [] w3 w4 by rw [hw4]; exact (Kept.refl [] w3).alloc _))
  have HW4 := Lib.hid hW3
  clear hw4 hp hk3 hW3
  go_wp2_with fail
  rw [← P0.out, ← W4.out]
  refine (wNum_any p [p] [] 241 1 _ HW4.out (by omega) (by omega) (by omega) (by omega) (by decide) (by simp)).mono ?_
  rintro e w5 ⟨rfl, F5, hP5⟩
  have HK5 : Hid (Kept [] w2 w5) := Lib.hid (HK4.out.trans hP5.kept (fun i hi => .inr (by have := List.mem_singleton.1 hi; have := Hp2.out; omega)))
  have HG5 := Lib.hid (HG.out.kept0 HK5.out)
  have HRg := Lib.hid HG5.out.range
  go_wp2_with (first
    | (go_at_call 35; refine (must_ok _).mono ?_; rintro e w6 ⟨rfl, rfl⟩)
    | (with_reducible change wpList _ _ _ (⟨_, Op.load 25 _, _, _, _, _⟩ :: _) _ _; refine wpList_load_mid rfl 25 (.tmp 18) rfl g 0 rfl _ _ HRg.out arrId rfl HSO.out ?_))
  have HF5 : Hid (∀ j, j ∈ F5 → w2.heap.size ≤ j) := Lib.hid (fun j hj => by
    rcases hP5.foot j hj with h | h
    · have := List.mem_singleton.1 h; have := Hp2.out; omega
    · have := HK4.out.size; omega)
  have HW5 := Lib.hid hP5.wri
  clear hP5 HG5 HRg HW4
  go_loopw [20] (fun i wr => ∃ (k : Nat) (F : List Nat), k ≤ 16 ∧ i = .int .i64 (k : Int) ∧ Hid (Wri wr p F (be 1 241 ++ f.obj.take k)) ∧ Hid (Kept [] w2 wr) ∧ Hid (∀ j, j ∈ F → w2.heap.size ≤ j)) (fun i _ => 16 - (intOf i).toNat)
  case atStart => exact ⟨0, F5, by omega, rfl, by simpa using HW5, HK5, HF5⟩
  case round =>
    obtain ⟨k, F, hk, rfl, HW, HK, HF⟩ := hrel
    clear HW5 HK5 HF5
    by_cases hlt : k < 16
    · obtain ⟨y, hy⟩ : ∃ y, f.obj[k]? = some y := ⟨f.obj[k]'(by have := Hol.out; omega), List.getElem?_eq_getElem _⟩
      have hix : ∀ W, (Instr.index 25 (.agg (bvs f.obj).toArray) (.int .i64 (k : Int))).run Tryd.prog W = .ok (.int .u8 (y.toNat : Int)) W := fun W =>
        run_index_agg 25 5 16 _ k _ W arrId size1b _ Tryd.underlying5 rfl hlt (by rw [List.getElem?_toArray, bvs, List.getElem?_map, hy]; rfl)
      have HT := Lib.hid (take_step f.obj k y hy)
      obtain ⟨z, hz⟩ : ∃ z : Int, (y.toNat : Int) = z := ⟨_, rfl⟩
      have hz1 := y.toNat_lt
      have hzw : IntKind.u64.wrap z = z := by rw [IntWalk.u64_in _ (by omega)]
      have Hz : Hid (0 ≤ z ∧ z < 256 ∧ be 1 z.toNat = [y]) := Lib.hid ⟨by omega, by omega, by rw [← hz, Int.toNat_natCast]; exact be1_byte y⟩
      rw [hz] at hix
      have Hxl : Hid ((be 1 241 ++ f.obj.take k).length ≤ 20) := Lib.hid (by rw [List.length_append, be_length, List.length_take]; omega)
      clear hy hz hz1
      go_wp2_with fail
      refine (wNum_any p F _ z 1 _ HW.out Hz.out.1 (by have := Hz.out.2.1; omega) (by omega) (by omega) (by have := Hz.out; omega) (by have := Hxl.out; omega)).mono ?_
      rw [Hz.out.2.2]
      rintro e w6 ⟨rfl, F6, hP6⟩
      have HK6 : Hid (Kept [] w2 w6) := Lib.hid (HK.out.trans hP6.kept (fun i hi => .inr (HF.out i hi)))
      have HF6 : Hid (∀ j, j ∈ F6 → w2.heap.size ≤ j) := Lib.hid (fun j hj => by
        rcases hP6.foot j hj with h | h
        · exact HF.out j h
        · have := HK.out.size; omega)
      have HW6 : Hid (Wri w6 p F6 (be 1 241 ++ f.obj.take (k + 1))) := Lib.hid (by rw [HT.out, ← List.append_assoc]; exact hP6.wri)
      clear hP6 hix HW HK HF Hxl Hz
      go_wp2_with (go_at_call 35; refine (must_ok _).mono ?_; rintro e w7 ⟨rfl, rfl⟩)
      go_roundw
      case rel => exact ⟨k + 1, F6, by omega, by go_num, HW6, HK6, HF6⟩
      case measure => simp [intOf]; omega
    · obtain rfl : k = 16 := by omega
      have HWf : Hid (Wri wr p F (be 1 241 ++ f.obj)) := Lib.hid (by have := HW.out; rw [List.take_of_length_le (by have := Hol.out; omega)] at this; exact this)
      clear HW
      go_wp2_with (go_at_call 37; refine (fNums_any g _).mono ?_; rintro e w6 ⟨rfl, hk6⟩)
      have HK6 := Lib.hid (HK.out.andThen hk6)
      have HW6 : Hid (Wri w6 p F ((be 1 241 ++ f.obj) ++ numB f 0)) := Lib.hid (by rw [numB_zero, List.append_nil]; exact HWf.out.kept0 hk6)
      have Hol6 := Hol
      clear HK HWf hk6 hlt hk
      go_loopw [29] (fun i wr => ∃ (j : Nat) (F : List Nat), j ≤ 4 ∧ i = .int .i64 (j : Int) ∧ Hid (Wri wr p F ((be 1 241 ++ f.obj) ++ numB f j)) ∧ Hid (Kept [] w2 wr) ∧ Hid (∀ j, j ∈ F → w2.heap.size ≤ j)) (fun i _ => 4 - (intOf i).toNat)
      case atStart => exact ⟨0, F, by omega, rfl, HW6, HK6, HF⟩
      case round =>
        clear HW6 HK6 HF
        obtain ⟨j, F, hj, rfl, HW, HK, HF⟩ := hrel
        have Hxl : Hid (((be 1 241 ++ f.obj) ++ numB f j).length ≤ 100) := Lib.hid (by rw [List.length_append, List.length_append, be_length]; have := Hol.out; have := numB_len f j; omega)
        by_cases hlt : j < 4
        · have hix := nums_ix g j hlt
          obtain ⟨s, hs⟩ : ∃ s, numS j = s := ⟨_, rfl⟩
          obtain ⟨z, hz⟩ : ∃ z, numZ f j = z := ⟨_, rfl⟩
          have Hf := Lib.hid (numZ_fits Hrr.out j hlt)
          have Hs := Lib.hid (numS_le j)
          have HB := Lib.hid (numB_succ f j)
          have HG := Lib.hid (HG.out.kept0 HK.out)
          have Hc := Lib.hid (fun (W : World) (h : FrB W g f A n c) => numZ_cell h hlt)
          rw [hs] at hix Hf Hs HB
          rw [hz] at Hf HB Hc
          clear hs hz
          go_wp2_with (with_reducible change wpList _ _ _ (⟨_, Op.alloc _, _, _, _, _⟩ :: _) _ _; refine wpList_alloc_blk rfl 72 rfl _ zeroNum ?_)
          intro w6 hN6 hk6 hs6
          obtain ⟨q, hq⟩ : ∃ q, q = wr.heap.size := ⟨_, rfl⟩
          rw [← hq] at hN6 ⊢
          have Q0 := Lib.hid hq
          clear hq
          go_wp2_with (with_reducible change wpList _ _ _ (⟨_, Op.store _ _ _, _, _, _, _⟩ :: _) _ _; refine wpList_store_blk rfl 72 (.tmp 9) (.tmp 31) rfl q [.pointer (some ⟨g, 16 + j, none⟩), .int .i64 (s : Int)] rfl rfl 72 _ hN6 (by kernel_rfl) rfl (by simp [Value.oneCell']) ?_)
          intro w7 hN7 hk7 hs7
          have HK7 : Hid (Kept [] wr w7) := Lib.hid (hk6.trans hk7 (fun i hi => .inr (by have := List.mem_singleton.1 hi; have := Q0.out; omega)))
          have HqF : Hid (q ∉ F ∧ g ∉ F) := Lib.hid ⟨fun hm => by have := HW.out.foot q hm; have := Q0.out; omega, fun hm => by have := HF.out g hm; have := HGB.out.lt; omega⟩
          have SK : Hid (∀ W, Kept F w7 W → W.cell? ⟨q, 0, none⟩ = some (.pointer (some ⟨g, 16 + j, none⟩)) ∧ W.cell? ⟨q, 1, none⟩ = some (.int .i64 (s : Int)) ∧ W.cell? ⟨g, 16 + j, none⟩ = some (.int .i64 z)) :=
            Lib.hid (fun W hk => ⟨(hN7.kept hk HqF.out.1).cell 0, (hN7.kept hk HqF.out.1).cell 1, Hc.out W ((HG.out.kept0 HK7.out).kept hk HqF.out.2)⟩)
          have hzw : IntKind.u64.wrap z = z := by rw [IntWalk.u64_in _ (by have := Hf.out; omega)]
          have HW7 := Lib.hid (HW.out.kept0 HK7.out)
          clear hN6 hk6 hs6 hk7 hs7 hN7 hix HW HG
          go_wp2
          have hHeld := SK.out _ (Kept.refl F w7).drew
          refine wp_region_begin (fun W => W.cell? ⟨q, 0, none⟩ = some (.pointer (some ⟨g, 16 + j, none⟩)) ∧ W.cell? ⟨q, 1, none⟩ = some (.int .i64 (s : Int)) ∧ W.cell? ⟨g, 16 + j, none⟩ = some (.int .i64 z)) (by kernel_rfl) ?_
          refine held_pureD 0 32 (.pointer (some ⟨q, 0, none⟩)) rfl rfl (by kernel_rfl) (by kernel_rfl) (by kernel_rfl) rfl (fun w hS => by kernel_rfl) hHeld ?_
          simp only [Act.put, List.setIfInBounds_toArray, List.set_cons_succ, List.set_cons_zero]
          refine held_pureD 1 33 (.pointer (some ⟨g, 16 + j, none⟩)) rfl rfl (by kernel_rfl) (by kernel_rfl) (by kernel_rfl) rfl (fun w hS => pureC 70 (.tmp 32) rfl ⟨q, 0, none⟩ _ rfl (fun w => by kernel_rfl) w hS.1) hHeld ?_
          simp only [Act.put, List.setIfInBounds_toArray, List.set_cons_succ, List.set_cons_zero]
          refine held_pureD 2 34 (.pointer (some ⟨g, 16 + j, none⟩)) rfl rfl (by kernel_rfl) (by kernel_rfl) (by kernel_rfl) rfl (fun w hS => by kernel_rfl) hHeld ?_
          simp only [Act.put, List.setIfInBounds_toArray, List.set_cons_succ, List.set_cons_zero]
          refine held_pureD 3 35 (.int .i64 z) rfl rfl (by kernel_rfl) (by kernel_rfl) (by kernel_rfl) rfl (fun w hS => pureC 3 (.tmp 34) rfl ⟨g, 16 + j, none⟩ _ rfl (fun w => by kernel_rfl) w hS.2.2) hHeld ?_
          simp only [Act.put, List.setIfInBounds_toArray, List.set_cons_succ, List.set_cons_zero]
          refine held_pureD 4 36 (.int .u64 z) rfl rfl (by kernel_rfl) (by kernel_rfl) (by kernel_rfl) rfl (fun w hS => pure_conv 3 59 (.tmp 35) rfl .i64 .u64 _ _ rfl (by kernel_rfl) Tryd.underlying59 hzw w) hHeld ?_
          simp only [Act.put, List.setIfInBounds_toArray, List.set_cons_succ, List.set_cons_zero]
          refine held_pureD 5 37 (.pointer (some ⟨q, 1, none⟩)) rfl rfl (by kernel_rfl) (by kernel_rfl) (by kernel_rfl) rfl (fun w hS => by kernel_rfl) hHeld ?_
          simp only [Act.put, List.setIfInBounds_toArray, List.set_cons_succ, List.set_cons_zero]
          refine held_pureD 6 38 (.int .i64 (s : Int)) rfl rfl (by kernel_rfl) (by kernel_rfl) (by kernel_rfl) rfl (fun w hS => pureC 3 (.tmp 37) rfl ⟨q, 1, none⟩ _ rfl (fun w => by kernel_rfl) w hS.2.1) hHeld ?_
          simp only [Act.put, List.setIfInBounds_toArray, List.set_cons_succ, List.set_cons_zero]
          refine held_one 7 (by kernel_rfl) rfl ?_
          go_wp2_with fail
          refine (wNum_any p F _ z s _ (HW7.out.kept0 (Kept.refl [] w7).drew) Hf.out.1 (by have := Hf.out; omega) (by have := Hs.out; omega) (by have := Hs.out; omega) Hf.out.2.2 (by have := Hxl.out; omega)).mono ?_
          rintro e w8 ⟨rfl, F8, hP8⟩
          have hP9 := hP8.since (Kept.refl [] w7).drew
          have hS8 : w8.cell? ⟨q, 0, none⟩ = some (.pointer (some ⟨g, 16 + j, none⟩)) ∧ w8.cell? ⟨q, 1, none⟩ = some (.int .i64 (s : Int)) ∧ w8.cell? ⟨g, 16 + j, none⟩ = some (.int .i64 z) := SK.out _ hP9.kept
          have HK8 : Hid (Kept [] w2 w8) := Lib.hid ((HK.out.andThen HK7.out).trans hP9.kept (fun i hi => .inr (HF.out i hi)))
          have HF8 : Hid (∀ j, j ∈ F8 → w2.heap.size ≤ j) := Lib.hid (fun j hj => by
            rcases hP9.foot j hj with h | h
            · exact HF.out j h
            · have h1 := HK7.out.size; have h2 := HK.out.size; omega)
          have HW8 : Hid (Wri w8 p F8 ((be 1 241 ++ f.obj) ++ numB f (j + 1))) := Lib.hid (by rw [HB.out, ← List.append_assoc]; exact hP9.wri)
          clear hP8 hP9 HW7 HK
          go_wp2
          change _ ∧ wpAnyH _ _ _ _ _ _ _ _ _
          refine ⟨hS8, ?_⟩
          refine held_one 8 (by kernel_rfl) rfl ?_
          go_wp2_with (go_at_call 35; refine (must_ok _).mono ?_; rintro e w9 ⟨rfl, rfl⟩)
          change _ ∧ wpAnyH _ _ _ _ _ _ _ _ _
          refine ⟨hS8, ?_⟩
          refine held_done (by kernel_rfl) ?_
          go_wp2
          go_roundw
          case rel => exact ⟨j + 1, F8, by omega, by go_num, HW8, HK8, HF8⟩
          case measure => simp [intOf]; omega
        · obtain rfl : j = 4 := by omega
          have hGf := HG.out.kept0 HK.out
          have d5 := hGf.piece
          have HP4 := Lib.hid (HFA.out.piece.kept0 (HK2.out.andThen HK.out))
          have Hoff : Hid (0 < n → Off A F) := Lib.hid (fun hn => off_old HFA.out.piece (fun i hi => by have h1 := HF.out i hi; have h2 := HK2.out.size; omega) hn)
          have Hxm : Hid (((be 1 241 ++ f.obj) ++ numB f 4).length ≤ 140737488200000) := Lib.hid (by have := Hxl.out; omega)
          have hn5 : n ≤ 65536 := by have := Hnn.out; omega
          clear hGf hlt hj Hxl
          go_wp2_with fail
          refine (wText_any p F _ A n c f.piece _ HW.out HP4.out Hoff.out hn5 Hxm.out).mono ?_
          rintro e w6 ⟨rfl, F6, hP6⟩
          have HK6 : Hid (Kept [] w2 w6) := Lib.hid (HK.out.trans hP6.kept (fun i hi => .inr (HF.out i hi)))
          have HW6 : Hid (Wri w6 p F6 X) := Lib.hid (by rw [HX.out]; exact hP6.wri)
          clear hP6 HW HK HF HP4 Hoff d5
          go_wp2_with (first
            | (go_at_call 35; refine (must_ok _).mono ?_; rintro e w7 ⟨rfl, rfl⟩)
            | (go_at_call 39; refine (wOut_any p F6 _ _ HW6.out (by have := HXl.out; omega)).mono ?_; rintro e w8 ⟨v8, rfl, ho8, hk8, hf8⟩; obtain ⟨A8, n8, c8, rfl, hr8, _⟩ := ho8.form))
          have HK8 := Lib.hid (HK6.out.andThen hk8)
          have HO8 := Lib.hid ho8
          have HR8 := Lib.hid hr8
          have hn8 : n8 ≤ 1200 := by rw [← hr8.len]; exact HXl.out
          have HF8 : Hid (∀ q, (Value.slice A8 n8 c8).ownBlock = some q → w.heap.size ≤ q) := Lib.hid (fun q hq => by have h1 := hf8 q hq; have h2 := HK6.out.size; have h3 := HK2.out.size; omega)
          have HAr := Lib.hid ((HA.out.kept0 HK8.out).rdb 0 32 32 key (by rw [List.drop_zero, List.take_of_length_le (by rw [bvs_length, Hkl.out]; exact Nat.le_refl _)]) Hkl.out (Nat.le_refl _) (by simp [maxLen]))
          obtain ⟨T, hT⟩ : ∃ T, hTag key X = T := ⟨_, rfl⟩
          have HTl : Hid (T.length = 32) := Lib.hid (by rw [← hT]; exact hTag_length key X)
          have HTz : Hid ((Tryd.prog.info? 23).map (·.size) = some (bvs T).length) := Lib.hid (size_of_len (P := Tryd.prog) (ty := 23) size32 HTl.out)
          have HTo := Lib.hid (bvs_one T)
          have HTb : Hid ((zb 32).length = (bvs T).length) := Lib.hid (zb_len HTl.out)
          have HT := Lib.hid hT
          clear ho8 hk8 hf8 hr8 HW6 HK6 hT
          refine (hTagF_any _ A8 32 32 n8 c8 key X _ HAr.out HR8.out (Hgl.out.kept0 (HK2.out.andThen HK8.out)) (by omega) (by omega)).mono ?_
          rw [HT.out]
          rintro e w9 ⟨rfl, hk9⟩
          have HO9 := Lib.hid (HO8.out.kept0 hk9)
          have HK9 := Lib.hid (HK8.out.andThen hk9)
          clear hk9 HO8 HK8 HR8 HAr
          go_wp2_with (with_reducible change wpList _ _ _ (⟨_, Op.alloc _, _, _, _, _⟩ :: _) _ _; refine wpList_alloc_blk rfl 23 rfl _ zero32 ?_)
          intro w10 hD hk10 hs10
          obtain ⟨d, hd⟩ : ∃ d, d = w9.heap.size := ⟨_, rfl⟩
          rw [← hd] at hD ⊢
          have D0 := Lib.hid hd
          clear hd
          go_wp2_with (with_reducible change wpList _ _ _ (⟨_, Op.store _ _ _, _, _, _, _⟩ :: _) _ _; refine wpList_store_blk rfl 23 (.tmp 11) (.tmp 49) rfl d (bvs T) rfl rfl 23 (zb 32) hD HTz.out HTb.out HTo.out ?_)
          intro w11 hD11 hk11 hs11
          have hk12 : Kept [] w9 w11 := hk10.trans hk11 (fun i hi => .inr (by have := List.mem_singleton.1 hi; have := D0.out; omega))
          have HK11 := Lib.hid (HK9.out.andThen hk12)
          have HO11 := Lib.hid (HO9.out.kept0 hk12)
          have HDr := Lib.hid (hD11.rdb 0 32 32 T (by rw [List.drop_zero, List.take_of_length_le (by rw [bvs_length, HTl.out]; exact Nat.le_refl _)]) HTl.out (Nat.le_refl _) (by simp [maxLen]))
          clear hD hk10 hs10 hD11 hk11 hs11 hk12 HO9 HK9
          obtain ⟨i0, hi, hz0, hz1, hz2⟩ := info_parts u8info
          go_wp2_with (at_builtin; refine wpList_append_bytes rfl (.tmp 50) (.tmp 51) 26 rfl 5 i0 _ 1 Tryd.underlying26 hi hz0 hz1 hz2 rfl (.slice A8 n8 c8) X rfl HO11.out (some ⟨d, 0, none⟩) 32 32 T rfl HDr.out (by have := HXl.out; simp only [maxLen]; omega) (by have := HXl.out; omega) ?_)
          intro v13 w13 ho13 hk13 hm13
          obtain ⟨hK13, hb13⟩ := app_new (HK2.out.andThen HK11.out) HF8.out hk13 hm13
          obtain ⟨A13, n13, c13, rfl, _, _⟩ := ho13.form
          go_wp2
          go_ret
          exact ⟨_, rfl, by rw [HT.out]; exact ho13, hK13, hb13⟩
end Go.Proofs.YtibcjbelcplpjaaDoor
