/-
  Contracts of layer 13 (frame): Get, Of. No statement of the seed is proved here.
-/
import Derived.Test.YtibcjbelcplpjaaDoorFpc
import Derived.Test.YtibcjbelcplpjaaDoorFpb
import Derived.Test.YtibcjbelcplpjaaDoorPe
namespace Go.Proofs.YtibcjbelcplpjaaDoor
open Go.RowKit
set_option linter.unusedVariables false

theorem ct_inV (fn : Nat) (cap : Array Value) (h : Nat) (Y : Fr × Nat) (w : World) (hE : ∀ w, (callFunc fn cap).run Tryd.prog w = .ok (.enter fn cap) w) (hh : h < w.heap.size)
    (H : ∀ w4, Kept [] w w4 → w.heap.size < w4.heap.size → Calls Tryd.prog fn cap w4 (InV h Y w4)) :
    Calls Tryd.prog 20 #[.func (.func fn) #[] cap] w fun e w' => e = .returned (.int .i64 (Y.2 : Int)) ∧ Kept [h] w w' ∧ ∃ A n c, Blk w' h 28 (frc Y.1 A n c) ∧ FrAt w' Y.1 A n c ∧ ∀ q, (Value.slice A n c).ownBlock = some q → w.heap.size < q := by
  refine (ct_any fn cap w [h] (fun er w' => er = Y.2 ∧ ∃ A n c, Blk w' h 28 (frc Y.1 A n c) ∧ FrAt w' Y.1 A n c ∧ ∀ q, (Value.slice A n c).ownBlock = some q → w.heap.size < q) hE
    (fun i hi => by have := List.mem_singleton.1 hi; omega) ?_ ?_).mono ?_
  · rintro er w2 w3 ⟨e1, A, n, c, hb, hf, hq⟩ hk
    exact ⟨e1, A, n, c, hb.kept hk (by simp; omega), hf.kept hk (fun _ => off_ownS (fun q h1 => by have := hq q h1; simp; omega)), hq⟩
  · intro w1 hk1 hs1
    refine (H w1 hk1 hs1).mono ?_
    rintro e w2 ⟨er, ht, hk, e1, A, n, c, hb, hf, hq⟩
    exact ⟨er, ht, hk, e1, A, n, c, hb, hf, fun q h1 => by have := hq q h1; omega⟩
  · rintro e w3 ⟨er, rfl, hk, e1, r⟩
    exact ⟨by rw [e1], hk, r⟩

set_option maxRecDepth 100000 in
set_option maxHeartbeats 4000000 in
theorem fGt_any (key bs : List UInt8) (A : Option Addr) (n c : Nat) (w : World) (hkl : key.length = 32) (hr : RdB w A n c bs) (hn : n ≤ 100000) (hgl : Glob w) :
    Calls Tryd.prog 15 #[.agg (bvs key).toArray, .slice A n c] w (FrRet (frGet key bs).1 (frGet key bs).2 w) := by
  have hmf : ∀ (fn : Fn) (first cap : Array Value) (w : World), (Instr.makeFunc fn first cap).run Tryd.prog w = .ok (.func fn first cap) w := fun _ _ _ _ => rfl
  obtain ⟨w1, hw1⟩ : ∃ w1, w1 = w.alloc (.cells (bvs key).toArray 23) := ⟨_, rfl⟩
  obtain ⟨w2, hw2⟩ : ∃ w2, w2 = w1.alloc (.cells #[.slice A n c] 26) := ⟨_, rfl⟩
  obtain ⟨a, ha⟩ : ∃ a, a = w.heap.size := ⟨_, rfl⟩
  obtain ⟨s, hs⟩ : ∃ s, s = w1.heap.size := ⟨_, rfl⟩
  have hA : Blk w1 a 23 (bvs key) := by rw [hw1, ha]; exact Blk.new w 23 (bvs key)
  have hk1 : Kept [] w w1 := by rw [hw1]; exact (Kept.refl [] w).alloc _
  have hk2 : Kept [] w1 w2 := by rw [hw2]; exact (Kept.refl [] w1).alloc _
  have hS : Blk w2 s 26 [.slice A n c] := by rw [hw2, hs]; exact Blk.new w1 26 [.slice A n c]
  have HA := Lib.hid (hA.kept0 hk2)
  have HS := Lib.hid hS
  have HR := Lib.hid hr
  have Hgl := Lib.hid hgl
  have Hkl := Lib.hid hkl
  have HK2 := Lib.hid (hk1.andThen hk2)
  have W1 := Lib.hid hw1
  have W2 := Lib.hid hw2
  have A0 := Lib.hid ha
  have S0 := Lib.hid hs
  have HC := Lib.hid (fun a s h W => fGt1_any key bs A n c a s h W)
  obtain ⟨Y, hY⟩ : ∃ Y, frGet key bs = Y := ⟨_, rfl⟩
  rw [hY] at HC ⊢
  clear hw1 hw2 ha hs hA hk1 hk2 hS hr hgl hkl hY
  go_enter Tryd.func15, Tryd.ntmps15
  go_wp2_with (first
    | (with_reducible change wpList _ _ _ (⟨_, Op.box 23 _, _, _, _, _⟩ :: _) _ _; refine Great.wpList_boxTo rfl 23 _ rfl _ rfl a A0.out.symm (bvs key).toArray rfl ?_; rw [← W1.out])
    | (with_reducible change wpList _ _ _ (⟨_, Op.alloc _, _, _, _, _⟩ :: _) _ _; rw [← S0.out, ← W2.out]; refine wpList_alloc_blk rfl 28 rfl _ zeroFr ?_))
  intro w3 hH3 hk3 hs3
  obtain ⟨h, hh⟩ : ∃ h, h = w2.heap.size := ⟨_, rfl⟩
  rw [← hh] at hH3 ⊢
  have HH : Hid (w.heap.size ≤ h ∧ h < w3.heap.size) := Lib.hid ⟨by have := HK2.out.size; omega, hH3.lt⟩
  have HH3 := Lib.hid hH3
  have HK3 := Lib.hid hk3
  clear hh hH3 hk3 hs3
  go_wp2_with fail
  refine (ct_inV 27 _ h Y w3 (fun _ => by simp [go_sem]) HH.out.2 (fun w4 hk4 hs4 => HC.out a s h w4 Hkl.out ((HA.out.kept0 HK3.out).kept0 hk4) ((HS.out.kept0 HK3.out).kept0 hk4) (HR.out.kept0 ((HK2.out.andThen HK3.out).andThen hk4)) hn (HH3.out.kept0 hk4) (Hgl.out.kept0 ((HK2.out.andThen HK3.out).andThen hk4)))).mono ?_
  rintro e w4 ⟨rfl, hk4, A4, n4, c4, hB4, hF4, hq4⟩
  have HSf := Lib.hid (frc_size (A := A4) (n := n4) (c := c4) hF4.obj)
  have HSo := Lib.hid (frc_one Y.1 A4 n4 c4)
  obtain ⟨L, hL⟩ : ∃ L, frc Y.1 A4 n4 c4 = L := ⟨_, rfl⟩
  have HL := Lib.hid hL
  rw [hL] at hB4 HSf HSo
  have HB4 := Lib.hid hB4
  have HF4 := Lib.hid hF4
  have HQ4 := Lib.hid hq4
  have HK4 : Hid (Kept [] w w4) := Lib.hid ((HK2.out.andThen HK3.out).trans hk4 (fun i hi => .inr (by have := List.mem_singleton.1 hi; have := HH.out.1; omega)))
  clear hL hB4 hF4 hq4 hk4
  go_wp2_with (first
    | (with_reducible change wpList _ _ _ (⟨_, Op.load _ _, _, _, _, _⟩ :: _) _ _; refine wpList_load_blk rfl 28 (.tmp 4) rfl h rfl 28 _ _ HB4.out Tryd.underlying28 rfl HSf.out ?_)
    | (with_reducible change wpList _ _ _ (⟨_, Op.store _ _ _, _, _, _, _⟩ :: _) _ _; refine wpList_store_blk rfl 28 (.tmp 4) (.tmp 8) rfl h L rfl rfl 28 _ HB4.out HSf.out rfl HSo.out ?_))
  intro w5 hB5 hk5 hs5
  go_wp2
  refine bodyPost_ret (results_blk2 rfl _ h 28 _ _ (.int .i64 (Y.2 : Int)) rfl rfl hB5 Tryd.underlying28 rfl HSf.out) rfl ?_
  rw [← HL.out]
  refine ⟨A4, n4, c4, rfl, HF4.out.kept hk5 (fun _ => off_ownS (fun q hq => by have := HQ4.out q hq; have := HH.out; simp; omega)), HK4.out.trans hk5 (fun i hi => .inr (by have := List.mem_singleton.1 hi; have := HH.out.1; omega)), fun q hq => by have := HQ4.out q hq; have := HH.out; omega⟩

set_option maxRecDepth 100000 in
set_option maxHeartbeats 4000000 in
theorem fOf_any (key o : List UInt8) (z : Int) (A : Option Addr) (n c : Nat) (bs : List UInt8) (w : World) (hkl : key.length = 32) (hol : o.length = 16) (hr : RdB w A n c bs) (hn : n ≤ 100000) (hgl : Glob w) :
    Calls Tryd.prog 17 #[.agg (bvs key).toArray, .agg (bvs o).toArray, .int .i64 z, .slice A n c] w (FrRet (frOf key o z bs).1 (frOf key o z bs).2 w) := by
  have hmf : ∀ (fn : Fn) (first cap : Array Value) (w : World), (Instr.makeFunc fn first cap).run Tryd.prog w = .ok (.func fn first cap) w := fun _ _ _ _ => rfl
  obtain ⟨w1, hw1⟩ : ∃ w1, w1 = w.alloc (.cells (bvs key).toArray 23) := ⟨_, rfl⟩
  obtain ⟨w2, hw2⟩ : ∃ w2, w2 = w1.alloc (.cells (bvs o).toArray 25) := ⟨_, rfl⟩
  obtain ⟨w3, hw3⟩ : ∃ w3, w3 = w2.alloc (.cells #[.int .i64 z] 3) := ⟨_, rfl⟩
  obtain ⟨w4, hw4⟩ : ∃ w4, w4 = w3.alloc (.cells #[.slice A n c] 26) := ⟨_, rfl⟩
  obtain ⟨a, ha⟩ : ∃ a, a = w.heap.size := ⟨_, rfl⟩
  obtain ⟨b, hb⟩ : ∃ b, b = w1.heap.size := ⟨_, rfl⟩
  obtain ⟨x, hx⟩ : ∃ x, x = w2.heap.size := ⟨_, rfl⟩
  obtain ⟨s, hs⟩ : ∃ s, s = w3.heap.size := ⟨_, rfl⟩
  have hA : Blk w1 a 23 (bvs key) := by rw [hw1, ha]; exact Blk.new w 23 (bvs key)
  have hB : Blk w2 b 25 (bvs o) := by rw [hw2, hb]; exact Blk.new w1 25 (bvs o)
  have hX : Blk w3 x 3 [.int .i64 z] := by rw [hw3, hx]; exact Blk.new w2 3 [.int .i64 z]
  have hS : Blk w4 s 26 [.slice A n c] := by rw [hw4, hs]; exact Blk.new w3 26 [.slice A n c]
  have hk1 : Kept [] w w1 := by rw [hw1]; exact (Kept.refl [] w).alloc _
  have hk2 : Kept [] w1 w2 := by rw [hw2]; exact (Kept.refl [] w1).alloc _
  have hk3 : Kept [] w2 w3 := by rw [hw3]; exact (Kept.refl [] w2).alloc _
  have hk4 : Kept [] w3 w4 := by rw [hw4]; exact (Kept.refl [] w3).alloc _
  have HA := Lib.hid (hA.kept0 ((hk2.andThen hk3).andThen hk4))
  have HB := Lib.hid (hB.kept0 (hk3.andThen hk4))
  have HX := Lib.hid (hX.kept0 hk4)
  have HS := Lib.hid hS
  have HR := Lib.hid hr
  have Hgl := Lib.hid hgl
  have Hkl := Lib.hid hkl
  have Hol := Lib.hid hol
  have HK4 := Lib.hid (((hk1.andThen hk2).andThen hk3).andThen hk4)
  have W1 := Lib.hid hw1
  have W2 := Lib.hid hw2
  have W3 := Lib.hid hw3
  have W4 := Lib.hid hw4
  have A0 := Lib.hid ha
  have B0 := Lib.hid hb
  have X0 := Lib.hid hx
  have S0 := Lib.hid hs
  have HC := Lib.hid (fun a s b x h W => fOf1_any key bs o z A n c a s b x h W)
  obtain ⟨Y, hY⟩ : ∃ Y, frOf key o z bs = Y := ⟨_, rfl⟩
  rw [hY] at HC ⊢
  clear hw1 hw2 hw3 hw4 ha hb hx hs hA hB hX hk1 hk2 hk3 hk4 hS hr hgl hkl hol hY
  go_enter Tryd.func17, Tryd.ntmps17
  go_wp2_with (first
    | (with_reducible change wpList _ _ _ (⟨_, Op.box 23 _, _, _, _, _⟩ :: _) _ _; refine Great.wpList_boxTo rfl 23 _ rfl _ rfl a A0.out.symm (bvs key).toArray rfl ?_; rw [← W1.out])
    | (with_reducible change wpList _ _ _ (⟨_, Op.box 25 _, _, _, _, _⟩ :: _) _ _; refine Great.wpList_boxTo rfl 25 _ rfl _ rfl b B0.out.symm (bvs o).toArray rfl ?_; rw [← W2.out])
    | (with_reducible change wpList _ _ _ (⟨_, Op.box 26 _, _, _, _, _⟩ :: _) _ _; rw [← X0.out, ← W3.out])
    | (with_reducible change wpList _ _ _ (⟨_, Op.alloc _, _, _, _, _⟩ :: _) _ _; rw [← S0.out, ← W4.out]; refine wpList_alloc_blk rfl 28 rfl _ zeroFr ?_))
  intro w5 hH5 hk5 hs5
  obtain ⟨h, hh⟩ : ∃ h, h = w4.heap.size := ⟨_, rfl⟩
  rw [← hh] at hH5 ⊢
  have HH : Hid (w.heap.size ≤ h ∧ h < w5.heap.size) := Lib.hid ⟨by have := HK4.out.size; omega, hH5.lt⟩
  have HH5 := Lib.hid hH5
  have HK5 := Lib.hid hk5
  clear hh hH5 hk5 hs5
  go_wp2_with fail
  refine (ct_inV 31 _ h Y w5 (fun _ => by simp [go_sem]) HH.out.2 (fun w6 hk6 hs6 => HC.out a s b x h w6 Hkl.out Hol.out ((HA.out.kept0 HK5.out).kept0 hk6) ((HS.out.kept0 HK5.out).kept0 hk6) ((HB.out.kept0 HK5.out).kept0 hk6) ((HX.out.kept0 HK5.out).kept0 hk6) (HR.out.kept0 ((HK4.out.andThen HK5.out).andThen hk6)) hn (HH5.out.kept0 hk6) (Hgl.out.kept0 ((HK4.out.andThen HK5.out).andThen hk6)))).mono ?_
  rintro e w6 ⟨rfl, hk6, A6, n6, c6, hB6, hF6, hq6⟩
  have HSf := Lib.hid (frc_size (A := A6) (n := n6) (c := c6) hF6.obj)
  have HSo := Lib.hid (frc_one Y.1 A6 n6 c6)
  obtain ⟨L, hL⟩ : ∃ L, frc Y.1 A6 n6 c6 = L := ⟨_, rfl⟩
  have HL := Lib.hid hL
  rw [hL] at hB6 HSf HSo
  have HB6 := Lib.hid hB6
  have HF6 := Lib.hid hF6
  have HQ6 := Lib.hid hq6
  have HK6 : Hid (Kept [] w w6) := Lib.hid ((HK4.out.andThen HK5.out).trans hk6 (fun i hi => .inr (by have := List.mem_singleton.1 hi; have := HH.out.1; omega)))
  clear hL hB6 hF6 hq6 hk6
  go_wp2_with (first
    | (with_reducible change wpList _ _ _ (⟨_, Op.load _ _, _, _, _, _⟩ :: _) _ _; refine wpList_load_blk rfl 28 (.tmp 8) rfl h rfl 28 _ _ HB6.out Tryd.underlying28 rfl HSf.out ?_)
    | (with_reducible change wpList _ _ _ (⟨_, Op.store _ _ _, _, _, _, _⟩ :: _) _ _; refine wpList_store_blk rfl 28 (.tmp 8) (.tmp 12) rfl h L rfl rfl 28 _ HB6.out HSf.out rfl HSo.out ?_))
  intro w7 hB7 hk7 hs7
  go_wp2
  refine bodyPost_ret (results_blk2 rfl _ h 28 _ _ (.int .i64 (Y.2 : Int)) rfl rfl hB7 Tryd.underlying28 rfl HSf.out) rfl ?_
  rw [← HL.out]
  refine ⟨A6, n6, c6, rfl, HF6.out.kept hk7 (fun _ => off_ownS (fun q hq => by have := HQ6.out q hq; have := HH.out; simp; omega)), HK6.out.trans hk7 (fun i hi => .inr (by have := List.mem_singleton.1 hi; have := HH.out.1; omega)), fun q hq => by have := HQ6.out q hq; have := HH.out; omega⟩
end Go.Proofs.YtibcjbelcplpjaaDoor
