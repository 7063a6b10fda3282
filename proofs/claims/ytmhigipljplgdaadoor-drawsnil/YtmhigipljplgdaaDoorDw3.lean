/-
  Contract of layer 12 (draws): Id. No statement of the seed is proved here.
-/
import Derived.Test.YtmhigipljplgdaaDoorDw2
import Derived.Test.YtmhigipljplgdaaDoorKd3
import Derived.Test.YtmhigipljplgdaaDoorEqId
import Derived.Test.YtmhigipljplgdaaDoorPc
namespace Go.Proofs.YtmhigipljplgdaaDoor
open Go.RowKit
set_option linter.unusedVariables false

/-- Blocks made by the call itself, ahead of the draws' turn and behind it. -/
theorem DrTo.close {w w1 w2 w3 : World} {p : Nat} {F F' S : List Nat} {ks : Ks} (h1 : Kept [] w w1) (hd : DrA w2 p F' ks) (hk : Kept F w1 w2) (hF : ∀ i, i ∈ F' → i ∈ F ∨ w1.heap.size ≤ i) (h3 : Kept S w2 w3) (hS : ∀ i, i ∈ S → i ∉ F' ∧ w.heap.size ≤ i) : DrTo DrA p F ks w w3 := by
  refine ⟨F', hd.kept h3 (fun i hi hm => (hS i hm).1 hi), ((h1.mono (T := F) (by simp)).trans hk (fun i hi => .inl hi)).trans h3 (fun i hi => .inr (hS i hi).2), fun i hi => ?_⟩
  rcases hF i hi with h | h
  · exact .inl h
  · exact .inr (by have := h1.size; omega)

set_option maxRecDepth 100000 in
set_option maxHeartbeats 2000000 in
theorem dId_none (w : World) (p : Nat) (F : List Nat) (h : DrA w p F []) :
    Calls Tryd.prog 11 #[.pointer (some ⟨p, 0, none⟩)] w fun e w' => e = .returned (.tuple #[.agg (zb 16).toArray, .int .i64 8]) ∧ DrTo DrA p F [] w w' := by
  have H0 := Lib.hid h.foot
  have HD := Lib.hid h
  have HB0 := Lib.hid builtId
  clear h
  go_enter Tryd.func11, Tryd.ntmps11
  go_wp2_with (with_reducible change wpList _ _ _ (⟨_, Op.alloc _, _, _, _, _⟩ :: _) _ _; refine wpList_alloc_blk rfl 40 rfl _ zeroId ?_)
  intro w1 hR1 hk1 hs1
  obtain ⟨r, hr⟩ : ∃ r, r = w.heap.size := ⟨_, rfl⟩
  rw [← hr] at hR1 ⊢
  have HD1 := Lib.hid (HD.out.kept hk1 (by simp))
  have HrF : Hid (r ∉ F) := Lib.hid (fun hm => by have := H0.out r hm; omega)
  have HrW : Hid (w.heap.size ≤ r ∧ r < w1.heap.size) := Lib.hid ⟨by omega, by omega⟩
  have HK1 := Lib.hid hk1
  have HR1 := Lib.hid hR1
  clear hr hk1 hs1 hR1
  go_wp2_with fail
  refine (dNext_none _ p F HD1.out).mono ?_
  rintro e w2 ⟨rfl, F', hd2, hk2, hF2⟩
  have HR2 := Lib.hid (HR1.out.kept hk2 HrF.out)
  have HrG : Hid (r ∉ F') := Lib.hid (fun hm => by
    rcases hF2 r hm with h | h
    · exact HrF.out h
    · have := HrW.out.2; omega)
  have HD2 := Lib.hid hd2
  have HK2 := Lib.hid hk2
  have HF2 := Lib.hid hF2
  clear hd2 hk2 hF2
  go_wp2_with (with_reducible change wpList _ _ _ (⟨_, Op.alloc _, _, _, _, _⟩ :: _) _ _; refine wpList_alloc_blk rfl 32 rfl _ zero32 ?_)
  intro w3 hG3 hk3 hs3
  obtain ⟨g, hg⟩ : ∃ g, g = w2.heap.size := ⟨_, rfl⟩
  rw [← hg] at hG3 ⊢
  have hrg : r ≠ g := by have := HR2.out.lt; omega
  have Hg : Hid (g ∉ F' ∧ w.heap.size ≤ g) := Lib.hid ⟨fun hm => by have := HD2.out.foot g hm; omega, by have := HK2.out.size; have := HK1.out.size; omega⟩
  have HR3 := Lib.hid (HR2.out.kept0 hk3)
  clear hs3 hg
  go_wp2_with (with_reducible change wpList _ _ _ (⟨_, Op.store _ _ _, _, _, _, _⟩ :: _) _ _; refine wpList_store_blk rfl 32 (.tmp 4) (.tmp 10) rfl g (zb 32) rfl rfl 32 (zb 32) hG3 zb_size rfl zb_one ?_)
  intro w4 hG4 hk4 hs4
  have HR4 := Lib.hid (HR3.out.kept hk4 (by simpa using hrg))
  have HK24 : Hid (Kept [g, r] w2 w4) := Lib.hid ((hk3.mono (T := [g, r]) (by simp)).trans hk4 (fun i hi => .inl (by have := List.mem_singleton.1 hi; simp [this])))
  clear hG3 hk3 hG4 hk4 hs4 HR3 HR2
  go_wp2_with (first
    | (with_reducible change wpList _ _ _ (⟨_, Op.build _ _, _, _, _, _⟩ :: _) _ _; refine Great.wpList_buildTo rfl 40 _ rfl _ rfl (zb 16).toArray (by simpa [Act.eval, Act.put] using HB0.out) ?_)
    | (with_reducible change wpList _ _ _ (⟨_, Op.store _ _ _, _, _, _, _⟩ :: _) _ _; refine wpList_store_blk rfl 40 (.tmp 2) (.tmp 14) rfl r (zb 16) rfl rfl 40 (zb 16) HR4.out zb16_size rfl zb16_one ?_))
  intro w5 hR5 hk5 hs5
  have hk25 := HK24.out.trans hk5 (fun i hi => .inl (by have := List.mem_singleton.1 hi; simp [this]))
  go_wp2
  refine bodyPost_ret (results_blk2 rfl _ r 40 _ _ _ rfl rfl hR5 arrId rfl zb16_size) rfl ?_
  refine ⟨rfl, DrTo.close HK1.out HD2.out HK2.out HF2.out hk25 (fun i hi => ?_)⟩
  simp only [List.mem_cons, List.not_mem_nil, or_false] at hi
  rcases hi with rfl | rfl
  · exact Hg.out
  · exact ⟨HrG.out, HrW.out.1⟩

set_option maxRecDepth 100000 in
set_option maxHeartbeats 4000000 in
theorem dId_one (w : World) (p : Nat) (F : List Nat) (k : List UInt8) (ks : Ks) (h : DrA w p F (k :: ks)) (hkl : k.length = 32) (hgl : Glob w) (hgF : ∀ i, i ∈ F → 0 < i ∧ 1 < i) :
    Calls Tryd.prog 11 #[.pointer (some ⟨p, 0, none⟩)] w fun e w' => e = .returned (.tuple #[.agg (bvs (idL k)).toArray, .int .i64 0]) ∧ DrTo DrA p F ks w w' := by
  obtain ⟨D, hD⟩ : ∃ D, shaSum k = D := ⟨_, rfl⟩
  have HDl : Hid (D.length = 32) := Lib.hid (by rw [← hD]; exact shaSum_length _)
  obtain ⟨X, hX⟩ : ∃ X, idL k = X := ⟨_, rfl⟩
  have HXl : Hid (X.length = 16) := Lib.hid (by rw [← hX]; exact idL_length k)
  have HXD : Hid (D.take 16 = X) := Lib.hid (by
    rw [← hX, ← hD]
    unfold idL
    rfl)
  rw [hX]
  have HD0 := Lib.hid hD
  have Hsk := Lib.hid (size_of_len (P := Tryd.prog) (ty := 32) size32 hkl)
  have Hok := Lib.hid (bvs_one k)
  have Hzk : Hid ((zb 32).length = (bvs k).length) := Lib.hid (by rw [zb_length, bvs_length, hkl])
  have Hsd := Lib.hid (size_of_len (P := Tryd.prog) (ty := 32) size32 HDl.out)
  have Hod := Lib.hid (bvs_one D)
  have Hzd : Hid ((zb 32).length = (bvs D).length) := Lib.hid (by rw [zb_length, bvs_length, HDl.out])
  have Hsx : Hid ((Tryd.prog.info? 40).map (·.size) = some (bvs X).length) := Lib.hid (by rw [bvs_length, HXl.out]; exact sizeId)
  have Hox := Lib.hid (bvs_one X)
  have HXz : Hid ((zb 16).length = (bvs X).length) := Lib.hid (by rw [zb_length, bvs_length, HXl.out])
  have Hkl := Lib.hid hkl
  have H0 := Lib.hid h.foot
  have HD := Lib.hid h
  have HGL := Lib.hid hgl
  have HGF : Hid (0 ∉ F ∧ 1 ∉ F) := Lib.hid ⟨fun hm => by have := (hgF _ hm).1; omega, fun hm => by have := (hgF _ hm).2; omega⟩
  clear h hD hX hkl hgl hgF
  go_enter Tryd.func11, Tryd.ntmps11
  go_wp2_with (with_reducible change wpList _ _ _ (⟨_, Op.alloc _, _, _, _, _⟩ :: _) _ _; refine wpList_alloc_blk rfl 40 rfl _ zeroId ?_)
  intro w1 hR1 hk1 hs1
  obtain ⟨r, hr⟩ : ∃ r, r = w.heap.size := ⟨_, rfl⟩
  rw [← hr] at hR1 ⊢
  have HD1 := Lib.hid (HD.out.kept hk1 (by simp))
  have HrF : Hid (r ∉ F) := Lib.hid (fun hm => by have := H0.out r hm; omega)
  have HrW : Hid (w.heap.size ≤ r ∧ r < w1.heap.size) := Lib.hid ⟨by omega, by omega⟩
  have HK1 := Lib.hid hk1
  have HG1 := Lib.hid (HGL.out.kept0 hk1)
  have HR1 := Lib.hid hR1
  clear hr hk1 hs1 hR1 HGL
  go_wp2_with fail
  refine (dNext_one _ p F k ks HD1.out).mono ?_
  rintro e w2 ⟨rfl, F', hd2, hk2, hF2⟩
  have HR2 := Lib.hid (HR1.out.kept hk2 HrF.out)
  have HG2 := Lib.hid (HG1.out.kept hk2 HGF.out.1 HGF.out.2)
  have HrG : Hid (r ∉ F') := Lib.hid (fun hm => by
    rcases hF2 r hm with h | h
    · exact HrF.out h
    · have := HrW.out.2; omega)
  have HD2 := Lib.hid hd2
  have HK2 := Lib.hid hk2
  have HF2 := Lib.hid hF2
  clear hd2 hk2 hF2 HG1 HR1
  go_wp2_with (with_reducible change wpList _ _ _ (⟨_, Op.alloc _, _, _, _, _⟩ :: _) _ _; refine wpList_alloc_blk rfl 32 rfl _ zero32 ?_)
  intro w3 hG3 hk3 hs3
  obtain ⟨g, hg⟩ : ∃ g, g = w2.heap.size := ⟨_, rfl⟩
  rw [← hg] at hG3 ⊢
  have hrg : r ≠ g := by have := HR2.out.lt; omega
  have Hg : Hid (g ∉ F' ∧ w.heap.size ≤ g) := Lib.hid ⟨fun hm => by have := HD2.out.foot g hm; omega, by have := HK2.out.size; have := HK1.out.size; omega⟩
  have HR3 := Lib.hid (HR2.out.kept0 hk3)
  have HgG : Hid (0 < g ∧ 1 < g) := Lib.hid (by have := HG2.out.lt; omega)
  have HG3 := Lib.hid (HG2.out.kept0 hk3)
  clear hs3 hg
  go_wp2_with (with_reducible change wpList _ _ _ (⟨_, Op.store _ _ _, _, _, _, _⟩ :: _) _ _; refine wpList_store_blk rfl 32 (.tmp 4) (.tmp 10) rfl g (bvs k) rfl rfl 32 (zb 32) hG3 Hsk.out Hzk.out Hok.out ?_)
  intro w4 hG4 hk4 hs4
  have HR4 := Lib.hid (HR3.out.kept hk4 (by simpa using hrg))
  have HG4 := Lib.hid (HG3.out.kept hk4 (fun hm => by have := List.mem_singleton.1 hm; have := HgG.out.1; omega) (fun hm => by have := List.mem_singleton.1 hm; have := HgG.out.2; omega))
  have HK24 : Hid (Kept [g, r] w2 w4) := Lib.hid ((hk3.mono (T := [g, r]) (by simp)).trans hk4 (fun i hi => .inl (by have := List.mem_singleton.1 hi; simp [this])))
  have HB4 := Lib.hid (hG4.all 32 Hkl.out (by omega))
  clear hG3 hk3 hG4 hk4 hs4 HR3 HR2 HG3
  go_wp2_with fail
  refine (sum_any (some ⟨g, 0, none⟩) 32 32 k _ HB4.out HG4.out (by omega)).mono ?_
  rw [HD0.out]
  rintro e w5 ⟨rfl, hk5⟩
  have HR5 := Lib.hid (HR4.out.kept0 hk5)
  have HK25 := Lib.hid (HK24.out.andThen hk5)
  clear hk5 HR4 HK24
  go_wp2_with (with_reducible change wpList _ _ _ (⟨_, Op.alloc _, _, _, _, _⟩ :: _) _ _; refine wpList_alloc_blk rfl 32 rfl _ zero32 ?_)
  intro w6 hH6 hk6 hs6
  obtain ⟨d, hd⟩ : ∃ d, d = w5.heap.size := ⟨_, rfl⟩
  rw [← hd] at hH6 ⊢
  have hrd : r ≠ d := by have := HR5.out.lt; omega
  have Hd : Hid (d ∉ F' ∧ w.heap.size ≤ d) := Lib.hid ⟨fun hm => by have := HD2.out.foot d hm; have := HK25.out.size; omega, by have := HK25.out.size; have := HK2.out.size; have := HK1.out.size; omega⟩
  have HR6 := Lib.hid (HR5.out.kept0 hk6)
  clear hs6 hd
  go_wp2_with (with_reducible change wpList _ _ _ (⟨_, Op.store _ _ _, _, _, _, _⟩ :: _) _ _; refine wpList_store_blk rfl 32 (.tmp 6) (.tmp 17) rfl d (bvs D) rfl rfl 32 (zb 32) hH6 Hsd.out Hzd.out Hod.out ?_)
  intro w7 hH7 hk7 hs7
  have HR7 := Lib.hid (HR6.out.kept hk7 (by simpa using hrd))
  have HK27 : Hid (Kept [g, r, d] w2 w7) := Lib.hid (((HK25.out.mono (T := [g, r, d]) (fun i hi => .inl (by simp at hi; rcases hi with h | h <;> simp [h]))).andThen hk6).trans hk7 (fun i hi => .inl (by have := List.mem_singleton.1 hi; simp [this])))
  have HH7 := Lib.hid hH7
  have HC : Hid (w7.rangeAt d 0 (bvs X)) := Lib.hid (fun j v hv => by
    rw [Nat.zero_add, hH7.cell]
    have hj := (List.getElem?_eq_some_iff.1 hv).1
    rw [bvs_length, HXl.out] at hj
    rw [← hv, ← HXD.out, bvs, bvs, List.getElem?_map, List.getElem?_map, List.getElem?_take, if_pos hj])
  clear hH6 hk6 hH7 hk7 hs7 HR6 HR5 HK25
  have hat : ∀ W, (Instr.arrayAt 40 (.slice (some ⟨d, 0, none⟩) 32 32)).run Tryd.prog W = .ok (.pointer (some ⟨d, 0, none⟩)) W := fun W => by simp [Instr.arrayAt, run_underlying arrId]
  go_wp2_with (first
    | (with_reducible change wpList _ _ _ (⟨_, Op.load _ _, _, _, _, _⟩ :: _) _ _; refine wpList_load_mid rfl 40 (.tmp 19) rfl d 0 rfl (bvs X) _ HC.out arrId rfl Hsx.out ?_)
    | (with_reducible change wpList _ _ _ (⟨_, Op.store _ _ _, _, _, _, _⟩ :: _) _ _; refine wpList_store_blk rfl 40 (.tmp 2) (.tmp 20) rfl r (bvs X) rfl rfl 40 (zb 16) HR7.out Hsx.out HXz.out Hox.out ?_))
  intro w8 hR8 hk8 hs8
  have hk28 := HK27.out.trans hk8 (fun i hi => .inl (by have := List.mem_singleton.1 hi; simp [this]))
  go_wp2
  refine bodyPost_ret (results_blk2 rfl _ r 40 _ _ _ rfl rfl hR8 arrId rfl Hsx.out) rfl ?_
  refine ⟨rfl, DrTo.close HK1.out HD2.out HK2.out HF2.out hk28 (fun i hi => ?_)⟩
  simp only [List.mem_cons, List.not_mem_nil, or_false] at hi
  rcases hi with rfl | rfl | rfl
  · exact Hg.out
  · exact ⟨HrG.out, HrW.out.1⟩
  · exact Hd.out
end Go.Proofs.YtmhigipljplgdaaDoor
