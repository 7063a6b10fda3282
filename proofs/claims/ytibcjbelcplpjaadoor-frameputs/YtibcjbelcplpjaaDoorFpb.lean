/-
  Contract of layer 13 (frame): Put, whole. No statement of the seed is proved here.
-/
import Derived.Test.YtibcjbelcplpjaaDoorFpa
namespace Go.Proofs.YtibcjbelcplpjaaDoor
open Go.RowKit
set_option linter.unusedVariables false

/-- Two results: one in a variable of one cell, one in a slot. -/
theorem results_c1t {P : Program} {w : World} {fn : Func} {u t : Tmp} {ty : TypeId} (h : fn.results = #[.cell u ty, .tmp t]) (tmps : Array Value) (q : Nat) (v v2 : Value)
    (hv : tmps.getD u undef = .pointer (some ⟨q, 0, none⟩)) (ht : tmps.getD t undef = v2) (hagg : (isAgg ty).run P w = .ok false w) (hc : w.cell? ⟨q, 0, none⟩ = some v) :
    (results fn tmps).run P w = .ok (.tuple #[v, v2]) w := by
  have hv' : tmps[u]?.getD undef = .pointer (some ⟨q, 0, none⟩) := by simpa using hv
  have ht' : tmps[t]?.getD undef = v2 := by simpa using ht
  have h2 : (loadVar ty ⟨q, 0, none⟩).run P w = .ok v w := by simp [loadVar, hagg, hc]
  simp [results, h, hv', ht', asAddr, h2]
set_option maxRecDepth 100000 in
set_option maxHeartbeats 4000000 in
theorem fPt_any (key : List UInt8) (f : Fr) (A : Option Addr) (n c : Nat) (w : World) (hkl : key.length = 32) (h : FrAt w f A n c) (hgl : Glob w) :
    Calls Tryd.prog 9 #[.agg (bvs key).toArray, .agg (frc f A n c).toArray] w (RefRet (frPut key f).1 (frPut key f).2 w) := by
  have hmf : ∀ (fn : Fn) (first cap : Array Value) (w : World), (Instr.makeFunc fn first cap).run Tryd.prog w = .ok (.func fn first cap) w := fun _ _ _ _ => rfl
  obtain ⟨w1, hw1⟩ : ∃ w1, w1 = w.alloc (.cells (bvs key).toArray 23) := ⟨_, rfl⟩
  obtain ⟨w2, hw2⟩ : ∃ w2, w2 = w1.alloc (.cells (frc f A n c).toArray 28) := ⟨_, rfl⟩
  obtain ⟨w3, hw3⟩ : ∃ w3, w3 = w2.alloc (.cells #[.slice none 0 0] 26) := ⟨_, rfl⟩
  obtain ⟨a, ha⟩ : ∃ a, a = w.heap.size := ⟨_, rfl⟩
  obtain ⟨g, hg⟩ : ∃ g, g = w1.heap.size := ⟨_, rfl⟩
  obtain ⟨b, hb⟩ : ∃ b, b = w2.heap.size := ⟨_, rfl⟩
  have hA : Blk w1 a 23 (bvs key) := by rw [hw1, ha]; exact Blk.new w 23 (bvs key)
  have hk1 : Kept [] w w1 := by rw [hw1]; exact (Kept.refl [] w).alloc _
  have hk2 : Kept [] w1 w2 := by rw [hw2]; exact (Kept.refl [] w1).alloc _
  have hk3 : Kept [] w2 w3 := by rw [hw3]; exact (Kept.refl [] w2).alloc _
  have hG : Blk w2 g 28 (frc f A n c) := by rw [hw2, hg]; exact (FrB.new w1 f A n c h.obj).blk
  have hB : Blk w3 b 26 [.slice none 0 0] := by rw [hw3, hb]; exact Blk.new w2 26 [.slice none 0 0]
  have hk03 := (hk1.andThen hk2).andThen hk3
  have hs3 : w3.heap.size = b + 1 := by rw [hw3, hb]; simp
  have hab : w.heap.size ≤ b := by have := (hk1.andThen hk2).size; omega
  have HC := Lib.hid (ct_any 21 #[.pointer (some ⟨a, 0, none⟩), .pointer (some ⟨g, 0, none⟩), .pointer (some ⟨b, 0, none⟩)] w3 [b]
    (fun er w' => er = (frPut key f).2 ∧ ∃ v, Blk w' b 26 [v] ∧ OwB 5 w' v (frPut key f).1 ∧ ∀ q, v.ownBlock = some q → w3.heap.size < q)
    (fun _ => by simp [go_sem]) (fun i hi => by have := List.mem_singleton.1 hi; omega)
    (fun er w2 w3' hx hk => by
      obtain ⟨e1, v, hv, ho, hf⟩ := hx
      exact ⟨e1, v, hv.kept hk (by simp; omega), ho.kept hk (fun q hq => by have := hf q hq; simp; omega), hf⟩)
    (fun w4 hk4 hs4 => (fPt1_any key f A n c a g b w4 hkl ((hA.kept0 (hk2.andThen hk3)).kept0 hk4) ((hG.kept0 hk3).kept0 hk4) (h.kept0 (hk03.andThen hk4)) (hB.kept0 hk4) (hgl.kept0 (hk03.andThen hk4))).mono (by
      rintro e w5 ⟨er, ht, hk5, e1, v, hv, ho, hf⟩
      exact ⟨er, ht, hk5, e1, v, hv, ho, fun q hq => by have := hf q hq; omega⟩)))
  have W1 := Lib.hid hw1
  have W2 := Lib.hid hw2
  have W3 := Lib.hid hw3
  have A0 := Lib.hid ha
  have G0 := Lib.hid hg
  have B0 := Lib.hid hb
  have HK3 := Lib.hid hk03
  have Hab : Hid (w.heap.size ≤ b ∧ w3.heap.size = b + 1) := Lib.hid ⟨hab, hs3⟩
  obtain ⟨L, hL⟩ : ∃ L, frc f A n c = L := ⟨_, rfl⟩
  rw [hL] at W2 ⊢
  obtain ⟨Y, hY⟩ : ∃ Y, frPut key f = Y := ⟨_, rfl⟩
  rw [hY] at HC ⊢
  clear hw1 hw2 hw3 ha hg hb hA hk1 hk2 hk3 hG hB hk03 hs3 hab h hL hY hgl
  go_enter Tryd.func9, Tryd.ntmps9
  go_wp2_with (first
    | (with_reducible change wpList _ _ _ (⟨_, Op.box 23 _, _, _, _, _⟩ :: _) _ _; refine Great.wpList_boxTo rfl 23 _ rfl _ rfl a A0.out.symm (bvs key).toArray rfl ?_; rw [← W1.out])
    | (with_reducible change wpList _ _ _ (⟨_, Op.box 28 _, _, _, _, _⟩ :: _) _ _; refine Great.wpList_boxTo rfl 28 _ rfl _ rfl g G0.out.symm L.toArray rfl ?_; rw [← W2.out]))
  rw [← B0.out, ← W3.out]
  refine HC.out.mono ?_
  rintro e w4 ⟨er, rfl, hk4, e1, v, hv, ho, hf⟩
  have c0 : w4.cell? ⟨b, 0, none⟩ = some v := hv.cell 0
  have f0 := hv.frz 0
  have HV := Lib.hid hv
  have HO := Lib.hid ho
  have HF := Lib.hid hf
  have HK4 := Lib.hid (HK3.out.trans hk4 (fun i hi => .inr (by have := List.mem_singleton.1 hi; have := Hab.out.1; omega)))
  have E1 := Lib.hid e1
  obtain ⟨A1, n1, c1, rfl, _, _⟩ := ho.form
  clear hk4 hv ho hf e1
  go_wp2
  have hset := HV.out.set 0 (.slice A1 n1 c1)
  have hks : Kept [b] w4 (w4.setCell ⟨b, 0, none⟩ (.slice A1 n1 c1)) := (Kept.refl [b] w4).setCell (.inl (by simp)) _
  refine bodyPost_ret (results_c1t rfl _ b (.slice A1 n1 c1) (.int .i64 er) rfl rfl (by kernel_rfl) (hset.cell 0)) rfl ?_
  refine ⟨_, by rw [E1.out], HO.out.kept hks (fun q hq => by have := HF.out q hq; have := Hab.out; simp; omega), HK4.out.trans hks (fun i hi => .inr (by have := List.mem_singleton.1 hi; have := Hab.out.1; omega)), fun q hq => by have := HF.out q hq; have := Hab.out; omega⟩
end Go.Proofs.YtibcjbelcplpjaaDoor
