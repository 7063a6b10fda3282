/-
  Contract of layer 13 (frame): what stands ahead of the tag. No statement of the seed is proved here.
-/
import Derived.Test.YtibcjbelcplpjaaDoorFp1
import Derived.Test.YtibcjbelcplpjaaDoorPe
import Derived.Test.YtibcjbelcplpjaaDoorHm1
import Derived.BigRegion
namespace Go.Proofs.YtibcjbelcplpjaaDoor
open Go.RowKit
set_option linter.unusedVariables false
set_option linter.unusedSimpArgs false

theorem pure_cutA {P : Program} {o : Oper} {ev : Operand → Value} (t e : TypeId) (m : Nat) (x : Operand) (ho : o.op = .slice t x none none none) (g : Nat) (hx : ev x = .pointer (some ⟨g, 0, none⟩)) (ht : P.underlying t = some (.array m e)) (hs : (P.info? e).map (·.size) = some 1) (hm : 0 < m) (w : World) :
    (execOp ev o).run P w = .ok (.value (.slice (some ⟨g, 0, none⟩) m m)) w := by
  have h := run_cut_all t e m g 0 ht hs hm w
  unfold execOp
  simp only [ho, hx]
  simp [h]
theorem tag_iff {bs T : List UInt8} {m : Nat} : bs.take m ++ T = bs ↔ T = bs.drop m := by
  constructor
  · intro h
    have h2 := List.take_append_drop m bs
    rw [← h2] at h
    exact List.append_cancel_left (by rw [h]; simp)
  · intro h
    rw [h, List.take_append_drop]

theorem fUt_short (key : List UInt8) (A : Option Addr) (n c : Nat) (bs : List UInt8) (w : World) (hr : RdB w A n c bs) (hn : n < 32) :
    Calls Tryd.prog 29 #[.agg (bvs key).toArray, .slice A n c] w fun e w' => Throw 1 e ∧ Kept [] w w' := by
  obtain ⟨w1, hw1⟩ : ∃ w1, w1 = w.alloc (.cells (bvs key).toArray 23) := ⟨_, rfl⟩
  obtain ⟨a, ha⟩ : ∃ a, a = w.heap.size := ⟨_, rfl⟩
  have hk1 : Kept [] w w1 := by rw [hw1]; exact (Kept.refl [] w).alloc _
  have W1 := Lib.hid hw1
  have A0 := Lib.hid ha
  have HK1 := Lib.hid hk1
  have hn2 : (n : Int) < 32 := by omega
  have b1 := hr.cap
  have b2 := hr.most
  unfold maxLen at b2
  clear hw1 ha hk1 hr
  go_enter Tryd.func29, Tryd.ntmps29
  go_wp2_with (with_reducible change wpList _ _ _ (⟨_, Op.box _ _, _, _, _, _⟩ :: _) _ _; refine Great.wpList_boxTo rfl 23 _ rfl _ rfl a A0.out.symm (bvs key).toArray rfl ?_; rw [← W1.out])
  exact ⟨rfl, rfl, HK1.out⟩

/-- What stands ahead of the tag, or ErrTag. -/
def UtRet (key bs : List UInt8) (m c : Nat) (w : World) (e : Ending) (w' : World) : Prop :=
  Kept [] w w' ∧ ((hTag key (bs.take m) = bs.drop m ∧ ∃ A', e = .returned (.slice A' m c) ∧ RdB w' A' m c (bs.take m)) ∨ (hTag key (bs.take m) ≠ bs.drop m ∧ Throw 4 e))

set_option maxRecDepth 100000 in
set_option maxHeartbeats 8000000 in
theorem fUt_any (key : List UInt8) (A : Option Addr) (n c m : Nat) (bs : List UInt8) (w : World) (hkl : key.length = 32) (hr : RdB w A n c bs) (hn : n = m + 32) (hnm : n ≤ 100000) (hgl : Glob w) :
    Calls Tryd.prog 29 #[.agg (bvs key).toArray, .slice A n c] w (UtRet key bs m c w) := by
  obtain ⟨w1, hw1⟩ : ∃ w1, w1 = w.alloc (.cells (bvs key).toArray 23) := ⟨_, rfl⟩
  obtain ⟨a, ha⟩ : ∃ a, a = w.heap.size := ⟨_, rfl⟩
  have hA : Blk w1 a 23 (bvs key) := by rw [hw1, ha]; exact Blk.new w 23 (bvs key)
  have hk1 : Kept [] w w1 := by rw [hw1]; exact (Kept.refl [] w).alloc _
  obtain ⟨AT, hrT, hcT⟩ := hr.cutTo 26 5 Tryd.underlying26 size1b m ((n : Int) - 32) (by omega) (by omega)
  obtain ⟨AF, hrF, _, hcF⟩ := hr.cutFrom 26 5 Tryd.underlying26 size1b m ((n : Int) - 32) (by omega) (by omega)
  have h32 : n - m = 32 := by omega
  rw [h32] at hrF hcF
  obtain ⟨cF, hcF2⟩ : ∃ cF, c - m = cF := ⟨_, rfl⟩
  rw [hcF2] at hrF hcF
  obtain ⟨T, hT⟩ : ∃ T, hTag key (bs.take m) = T := ⟨_, rfl⟩
  obtain ⟨D, hD⟩ : ∃ D, bs.drop m = D := ⟨_, rfl⟩
  rw [hD] at hrF
  have HU : Hid (∀ e w', UtRet key bs m c w e w' ↔ Kept [] w w' ∧ ((T = D ∧ ∃ A', e = .returned (.slice A' m c) ∧ RdB w' A' m c (bs.take m)) ∨ (T ≠ D ∧ Throw 4 e))) := Lib.hid (fun e w' => by unfold UtRet; rw [hT, hD])
  have HTl : Hid (T.length = 32) := Lib.hid (by rw [← hT]; exact hTag_length _ _)
  have HTz : Hid ((Tryd.prog.info? 23).map (·.size) = some (bvs T).length) := Lib.hid (size_of_len (P := Tryd.prog) (ty := 23) size32 HTl.out)
  have HTo := Lib.hid (bvs_one T)
  have HTb : Hid ((zb 32).length = (bvs T).length) := Lib.hid (zb_len HTl.out)
  have HT := Lib.hid hT
  have W1 := Lib.hid hw1
  have A0 := Lib.hid ha
  have HK1 := Lib.hid hk1
  have HrT := Lib.hid hrT
  have HrF := Lib.hid hrF
  have HcT := Lib.hid hcT
  have HcF := Lib.hid hcF
  have HAr := Lib.hid (hA.rdb 0 32 32 key (by rw [List.drop_zero, List.take_of_length_le (by rw [bvs_length, hkl]; exact Nat.le_refl _)]) hkl (Nat.le_refl _) (by simp [maxLen]))
  have Hgl := Lib.hid (hgl.kept0 hk1)
  have hn2 : ¬ (n : Int) < 32 := by omega
  have hn3 : (32 : Int) ≤ (n : Int) := by omega
  have hmm : m ≤ 100000 := by omega
  have b1 := hr.cap
  have b2 := hr.most
  unfold maxLen at b2
  clear hw1 ha hA hk1 hr hrT hcT hrF hcF hcF2 hT hD hgl h32 hn
  go_enter Tryd.func29, Tryd.ntmps29
  go_wp2_with (with_reducible change wpList _ _ _ (⟨_, Op.box _ _, _, _, _, _⟩ :: _) _ _; refine Great.wpList_boxTo rfl 23 _ rfl _ rfl a A0.out.symm (bvs key).toArray rfl ?_; rw [← W1.out])
  have hHeld : True := trivial
  refine wp_region_begin (fun _ => True) (by kernel_rfl) ?_
  refine held_pureD 0 14 (.slice (some ⟨a, 0, none⟩) 32 32) rfl rfl (by kernel_rfl) (by kernel_rfl) (by kernel_rfl) rfl (fun w hS => pure_cutA 23 5 32 (.tmp 2) rfl a rfl arr32b size1b (by omega) w) hHeld ?_
  simp only [Act.put, List.setIfInBounds_toArray, List.set_cons_succ, List.set_cons_zero]
  refine held_pureD 1 15 (.slice A n c) rfl rfl (by kernel_rfl) (by kernel_rfl) (by kernel_rfl) rfl (fun w hS => rfl) hHeld ?_
  simp only [Act.put, List.setIfInBounds_toArray, List.set_cons_succ, List.set_cons_zero]
  refine held_pureD 2 16 (.int .i64 ((n : Int) - 32)) rfl rfl (by kernel_rfl) (by kernel_rfl) (by kernel_rfl) rfl (fun w hS => rfl) hHeld ?_
  simp only [Act.put, List.setIfInBounds_toArray, List.set_cons_succ, List.set_cons_zero]
  refine held_pureD 3 17 (.slice AT m c) rfl rfl (by kernel_rfl) (by kernel_rfl) (by kernel_rfl) rfl (fun w hS => pure_cut 26 (.tmp 15) none (some (.tmp 16)) rfl A n c _ rfl 5 Tryd.underlying26 w (HcT.out w)) hHeld ?_
  simp only [Act.put, List.setIfInBounds_toArray, List.set_cons_succ, List.set_cons_zero]
  refine held_two 4 5 (by kernel_rfl) rfl rfl ?_ ?_
  · skip
    go_wp2_with fail
    refine (hTagF_any (some ⟨a, 0, none⟩) AT 32 32 m c key (bs.take m) _ (HAr.out.kept0 (Kept.refl [] w1).drew) (HrT.out.kept0 (HK1.out.andThen (Kept.refl [] w1).drew)) (Hgl.out.kept0 (Kept.refl [] w1).drew) (by omega) (by omega)).mono ?_
    rw [HT.out]
    rintro e w3 ⟨rfl, hk3⟩
    have hK3 := (Kept.refl [] w1).drew.andThen hk3
    clear hk3
    go_wp2
    change _ ∧ wpAnyH _ _ _ _ _ _ _ _ _
    refine ⟨trivial, ?_⟩
    refine held_one 5 (by kernel_rfl) rfl ?_
    refine wpList_alloc_blk rfl 23 rfl _ zero32 ?_
    intro w5 hD5 hk5 hs5
    obtain ⟨d, hd⟩ : ∃ d, d = w3.heap.size := ⟨_, rfl⟩
    rw [← hd] at hD5 ⊢
    have D0 : Hid (w1.heap.size ≤ d) := Lib.hid (by have := hK3.size; omega)
    have HK5 := Lib.hid (hK3.andThen hk5)
    clear hd hk5 hs5 hK3
    go_wp2
    change _ ∧ wpAnyH _ _ _ _ _ _ _ _ _
    refine ⟨trivial, ?_⟩
    refine held_one 6 (by kernel_rfl) rfl ?_
    refine wpList_store_blk rfl 23 (.tmp 6) (.tmp 18) rfl d (bvs T) rfl rfl 23 (zb 32) hD5 HTz.out HTb.out HTo.out ?_
    intro w6 hD6 hk6 hs6
    have HK6 : Hid (Kept [] w1 w6) := Lib.hid (HK5.out.trans hk6 (fun i hi => .inr (by have := List.mem_singleton.1 hi; have := D0.out; omega)))
    have HDr := Lib.hid (hD6.rdb 0 32 32 T (by rw [List.drop_zero, List.take_of_length_le (by rw [bvs_length, HTl.out]; exact Nat.le_refl _)]) HTl.out (Nat.le_refl _) (by simp [maxLen]))
    clear hD5 hk6 hs6 hD6 HK5
    go_wp2
    change _ ∧ wpAnyH _ _ _ _ _ _ _ _ _
    refine ⟨trivial, ?_⟩
    refine held_done (by kernel_rfl) ?_
    go_wp2
    have hHeld : True := trivial
    refine wp_region_begin (fun _ => True) (by kernel_rfl) ?_
    refine held_pureD 0 19 (.slice (some ⟨d, 0, none⟩) 32 32) rfl rfl (by kernel_rfl) (by kernel_rfl) (by kernel_rfl) rfl (fun w hS => pure_cutA 23 5 32 (.tmp 6) rfl d rfl arr32b size1b (by omega) w) hHeld ?_
    simp only [Act.put, List.setIfInBounds_toArray, List.set_cons_succ, List.set_cons_zero]
    refine held_pureD 1 20 (.slice A n c) rfl rfl (by kernel_rfl) (by kernel_rfl) (by kernel_rfl) rfl (fun w hS => rfl) hHeld ?_
    simp only [Act.put, List.setIfInBounds_toArray, List.set_cons_succ, List.set_cons_zero]
    refine held_pureD 2 21 (.int .i64 ((n : Int) - 32)) rfl rfl (by kernel_rfl) (by kernel_rfl) (by kernel_rfl) rfl (fun w hS => rfl) hHeld ?_
    simp only [Act.put, List.setIfInBounds_toArray, List.set_cons_succ, List.set_cons_zero]
    refine held_pureD 3 22 (.slice AF 32 cF) rfl rfl (by kernel_rfl) (by kernel_rfl) (by kernel_rfl) rfl (fun w hS => pure_cut 26 (.tmp 20) (some (.tmp 21)) none rfl A n c _ rfl 5 Tryd.underlying26 w (HcF.out w)) hHeld ?_
    simp only [Act.put, List.setIfInBounds_toArray, List.set_cons_succ, List.set_cons_zero]
    refine held_one 4 (by kernel_rfl) rfl ?_
    go_wp2_with fail
    refine (equal_any _ _ 32 32 32 cF T D _ (HDr.out.kept0 (Kept.refl [] w6).drew) (HrF.out.kept0 ((HK1.out.andThen HK6.out).drew))).mono ?_
    rintro e w7 ⟨rfl, mq, h7⟩
    have HK7 : Hid (Kept [] w w7) := Lib.hid (by rw [h7]; exact ((HK1.out.andThen HK6.out).drew).drewN mq)
    clear h7 HDr HK6
    cases hb : (T == D) with
    | false =>
      have HN : Hid (T ≠ D) := Lib.hid (by simpa using hb)
      clear hb
      go_wp2
      change _ ∧ wpAnyH _ _ _ _ _ _ _ _ _
      refine ⟨trivial, ?_⟩
      refine held_one 5 (by kernel_rfl) rfl ?_
      go_wp2
      change _ ∧ wpAnyH _ _ _ _ _ _ _ _ _
      refine ⟨trivial, ?_⟩
      refine held_done (by kernel_rfl) ?_
      go_wp2
      exact ⟨rfl, (HU.out _ _).2 ⟨HK7.out, .inr ⟨HN.out, rfl⟩⟩⟩
    | true =>
      have HE : Hid (T = D) := Lib.hid (by simpa using hb)
      have hcT := HcT.out
      clear hb
      go_wp2
      change _ ∧ wpAnyH _ _ _ _ _ _ _ _ _
      refine ⟨trivial, ?_⟩
      refine held_one 5 (by kernel_rfl) rfl ?_
      go_wp2
      change _ ∧ wpAnyH _ _ _ _ _ _ _ _ _
      refine ⟨trivial, ?_⟩
      refine held_done (by kernel_rfl) ?_
      go_wp2
      go_ret
      exact (HU.out _ _).2 ⟨HK7.out, .inl ⟨HE.out, AT, rfl, HrT.out.kept0 HK7.out⟩⟩
  · skip
    refine wpList_alloc_blk rfl 23 rfl _ zero32 ?_
    intro w2 hD2 hk2 hs2
    obtain ⟨d, hd⟩ : ∃ d, d = w1.drew.heap.size := ⟨_, rfl⟩
    rw [← hd] at hD2 ⊢
    have D0 : Hid (w1.heap.size ≤ d) := Lib.hid (by rw [hd]; exact Nat.le_refl _)
    have hK2 := (Kept.refl [] w1).drew.andThen hk2
    clear hd hk2 hs2
    go_wp2
    change _ ∧ wpAnyH _ _ _ _ _ _ _ _ _
    refine ⟨trivial, ?_⟩
    refine held_one 4 (by kernel_rfl) rfl ?_
    go_wp2_with fail
    refine (hTagF_any (some ⟨a, 0, none⟩) AT 32 32 m c key (bs.take m) _ (HAr.out.kept0 hK2) (HrT.out.kept0 (HK1.out.andThen hK2)) (Hgl.out.kept0 hK2) (by omega) (by omega)).mono ?_
    rw [HT.out]
    rintro e w3 ⟨rfl, hk3⟩
    have hD5 := hD2.kept0 hk3
    have HK5 := Lib.hid (hK2.andThen hk3)
    clear hk3 hD2 hK2
    go_wp2
    change _ ∧ wpAnyH _ _ _ _ _ _ _ _ _
    refine ⟨trivial, ?_⟩
    refine held_one 6 (by kernel_rfl) rfl ?_
    refine wpList_store_blk rfl 23 (.tmp 6) (.tmp 18) rfl d (bvs T) rfl rfl 23 (zb 32) hD5 HTz.out HTb.out HTo.out ?_
    intro w6 hD6 hk6 hs6
    have HK6 : Hid (Kept [] w1 w6) := Lib.hid (HK5.out.trans hk6 (fun i hi => .inr (by have := List.mem_singleton.1 hi; have := D0.out; omega)))
    have HDr := Lib.hid (hD6.rdb 0 32 32 T (by rw [List.drop_zero, List.take_of_length_le (by rw [bvs_length, HTl.out]; exact Nat.le_refl _)]) HTl.out (Nat.le_refl _) (by simp [maxLen]))
    clear hD5 hk6 hs6 hD6 HK5
    go_wp2
    change _ ∧ wpAnyH _ _ _ _ _ _ _ _ _
    refine ⟨trivial, ?_⟩
    refine held_done (by kernel_rfl) ?_
    go_wp2
    have hHeld : True := trivial
    refine wp_region_begin (fun _ => True) (by kernel_rfl) ?_
    refine held_pureD 0 19 (.slice (some ⟨d, 0, none⟩) 32 32) rfl rfl (by kernel_rfl) (by kernel_rfl) (by kernel_rfl) rfl (fun w hS => pure_cutA 23 5 32 (.tmp 6) rfl d rfl arr32b size1b (by omega) w) hHeld ?_
    simp only [Act.put, List.setIfInBounds_toArray, List.set_cons_succ, List.set_cons_zero]
    refine held_pureD 1 20 (.slice A n c) rfl rfl (by kernel_rfl) (by kernel_rfl) (by kernel_rfl) rfl (fun w hS => rfl) hHeld ?_
    simp only [Act.put, List.setIfInBounds_toArray, List.set_cons_succ, List.set_cons_zero]
    refine held_pureD 2 21 (.int .i64 ((n : Int) - 32)) rfl rfl (by kernel_rfl) (by kernel_rfl) (by kernel_rfl) rfl (fun w hS => rfl) hHeld ?_
    simp only [Act.put, List.setIfInBounds_toArray, List.set_cons_succ, List.set_cons_zero]
    refine held_pureD 3 22 (.slice AF 32 cF) rfl rfl (by kernel_rfl) (by kernel_rfl) (by kernel_rfl) rfl (fun w hS => pure_cut 26 (.tmp 20) (some (.tmp 21)) none rfl A n c _ rfl 5 Tryd.underlying26 w (HcF.out w)) hHeld ?_
    simp only [Act.put, List.setIfInBounds_toArray, List.set_cons_succ, List.set_cons_zero]
    refine held_one 4 (by kernel_rfl) rfl ?_
    go_wp2_with fail
    refine (equal_any _ _ 32 32 32 cF T D _ (HDr.out.kept0 (Kept.refl [] w6).drew) (HrF.out.kept0 ((HK1.out.andThen HK6.out).drew))).mono ?_
    rintro e w7 ⟨rfl, mq, h7⟩
    have HK7 : Hid (Kept [] w w7) := Lib.hid (by rw [h7]; exact ((HK1.out.andThen HK6.out).drew).drewN mq)
    clear h7 HDr HK6
    cases hb : (T == D) with
    | false =>
      have HN : Hid (T ≠ D) := Lib.hid (by simpa using hb)
      clear hb
      go_wp2
      change _ ∧ wpAnyH _ _ _ _ _ _ _ _ _
      refine ⟨trivial, ?_⟩
      refine held_one 5 (by kernel_rfl) rfl ?_
      go_wp2
      change _ ∧ wpAnyH _ _ _ _ _ _ _ _ _
      refine ⟨trivial, ?_⟩
      refine held_done (by kernel_rfl) ?_
      go_wp2
      exact ⟨rfl, (HU.out _ _).2 ⟨HK7.out, .inr ⟨HN.out, rfl⟩⟩⟩
    | true =>
      have HE : Hid (T = D) := Lib.hid (by simpa using hb)
      have hcT := HcT.out
      clear hb
      go_wp2
      change _ ∧ wpAnyH _ _ _ _ _ _ _ _ _
      refine ⟨trivial, ?_⟩
      refine held_one 5 (by kernel_rfl) rfl ?_
      go_wp2
      change _ ∧ wpAnyH _ _ _ _ _ _ _ _ _
      refine ⟨trivial, ?_⟩
      refine held_done (by kernel_rfl) ?_
      go_wp2
      go_ret
      exact (HU.out _ _).2 ⟨HK7.out, .inl ⟨HE.out, AT, rfl, HrT.out.kept0 HK7.out⟩⟩
end Go.Proofs.YtibcjbelcplpjaaDoor
