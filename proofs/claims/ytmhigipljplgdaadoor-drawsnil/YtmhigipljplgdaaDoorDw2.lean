/-
  Contracts of layer 12 (draws): Next; all that the laws ask of draws. No statement of the seed is proved here.
-/
import Derived.Test.YtmhigipljplgdaaDoorDw1
import Derived.Test.YtmhigipljplgdaaDoorPc
namespace Go.Proofs.YtmhigipljplgdaaDoor
open Go.RowKit
set_option linter.unusedVariables false

theorem builtKeyD : Tryd.prog.built 32 [] = some (zb 32).toArray := by kernel_rfl
theorem dSome_one (w : World) (p : Nat) (F : List Nat) (k : List UInt8) (ks : Ks) (h : DrA w p F (k :: ks)) :
    Calls Tryd.prog 9 #[.pointer (some ⟨p, 0, none⟩), .int .i64 1] w fun e w' => ∃ A n c, e = .returned (.tuple #[.slice A n c, .int .i64 0]) ∧ RdK w' A n c [k] ∧ DrTo DrA p F ks w w' := by
  refine (show Calls Tryd.prog 9 #[.pointer (some ⟨p, 0, none⟩), .int .i64 1] w (SoRet w p F (k :: ks) 1) from dSome_ok w p F (k :: ks) 1 h (by simp) (by omega)).mono ?_
  rintro e w' ⟨A, n, c, rfl, hr, hd⟩
  obtain ⟨e1, e2, e3⟩ := som1_cons k ks
  rw [e2] at hr
  rw [e3] at hd
  exact ⟨A, n, c, by rw [List.length_cons, e1], hr, hd⟩
theorem dSome_none (w : World) (p : Nat) (F : List Nat) (h : DrA w p F []) :
    Calls Tryd.prog 9 #[.pointer (some ⟨p, 0, none⟩), .int .i64 1] w fun e w' => ∃ A n c, e = .returned (.tuple #[.slice A n c, .int .i64 8]) ∧ DrTo DrA p F [] w w' := by
  refine (dSome_no w p F [] 1 h (by omega) (by omega) (.inr ⟨by omega, by simp⟩)).mono ?_
  rintro e w' ⟨A, n, c, rfl, hr, hd⟩
  obtain ⟨e1, e2, e3⟩ := som1_nil
  rw [e3] at hd
  exact ⟨A, n, c, by rw [List.length_nil, e1], hd⟩
/-- A block made by the call itself, stored to, lies in none of the draws' own. -/
theorem DrTo.aside {w w1 w2 w3 : World} {p r : Nat} {F : List Nat} {ks : Ks} (h0 : ∀ i, i ∈ F → i < w.heap.size) (hr : r = w.heap.size) (h1 : Kept [] w w1) (hs : w1.heap.size = w.heap.size + 1) (h2 : DrTo DrA p F ks w1 w2) (h3 : Kept [r] w2 w3) : DrTo DrA p F ks w w3 := by
  obtain ⟨F', hd, hk, hF⟩ := h2
  refine ⟨F', hd.kept h3 (fun i hi hm => ?_), ((h1.mono (T := F) (by simp)).trans hk (fun i hi => .inl hi)).trans h3 (fun i hi => .inr (by have := List.mem_singleton.1 hi; omega)), fun i hi => ?_⟩
  · have e := List.mem_singleton.1 hm
    rcases hF i hi with h | h
    · have := h0 i h; omega
    · omega
  · rcases hF i hi with h | h
    · exact .inl h
    · exact .inr (by omega)

set_option maxRecDepth 100000 in
set_option maxHeartbeats 2000000 in
theorem dNext_none (w : World) (p : Nat) (F : List Nat) (h : DrA w p F []) :
    Calls Tryd.prog 8 #[.pointer (some ⟨p, 0, none⟩)] w fun e w' => e = .returned (.tuple #[.agg (zb 32).toArray, .int .i64 8]) ∧ DrTo DrA p F [] w w' := by
  have H0 := Lib.hid h.foot
  have HD := Lib.hid h
  have HB0 := Lib.hid builtKeyD
  clear h
  go_enter Tryd.func8, Tryd.ntmps8
  go_wp2_with (with_reducible change wpList _ _ _ (⟨_, Op.alloc _, _, _, _, _⟩ :: _) _ _; refine wpList_alloc_blk rfl 32 rfl _ zero32 ?_)
  intro w1 hR1 hk1 hs1
  obtain ⟨r, hr⟩ : ∃ r, r = w.heap.size := ⟨_, rfl⟩
  rw [← hr] at hR1 ⊢
  have HD1 := Lib.hid (HD.out.kept hk1 (by simp))
  have Hr := Lib.hid hr
  have HK1 := Lib.hid hk1
  have HS1 := Lib.hid hs1
  have HR1 := Lib.hid hR1
  clear hr hk1 hs1 hR1
  go_wp2_with fail
  refine (dSome_none _ p F HD1.out).mono ?_
  rintro e w2 ⟨A, n, c, rfl, hd2⟩
  have HD2 := Lib.hid hd2
  have hR2 : Blk w2 r 32 (zb 32) := by
    obtain ⟨F', _, hk, _⟩ := hd2
    exact HR1.out.kept hk (fun hm => by have := H0.out r hm; have := Hr.out; omega)
  have HR2 := Lib.hid hR2
  clear hd2 hR2
  go_wp2_with (first
    | (with_reducible change wpList _ _ _ (⟨_, Op.build _ _, _, _, _, _⟩ :: _) _ _; refine Great.wpList_buildTo rfl 32 _ rfl _ rfl (zb 32).toArray (by simpa [Act.eval, Act.put] using HB0.out) ?_)
    | (with_reducible change wpList _ _ _ (⟨_, Op.store _ _ _, _, _, _, _⟩ :: _) _ _; refine wpList_store_blk rfl 32 (.tmp 2) (.tmp 13) rfl r (zb 32) rfl rfl 32 (zb 32) HR2.out zb_size rfl zb_one ?_))
  intro w3 hR3 hk3 hs3
  go_wp2
  refine bodyPost_ret (results_blk2 rfl _ r 32 _ _ _ rfl rfl hR3 arr32b rfl zb_size) rfl ?_
  exact ⟨rfl, HD2.out.aside H0.out Hr.out HK1.out HS1.out hk3⟩

set_option maxRecDepth 100000 in
set_option maxHeartbeats 2000000 in
theorem dNext_one (w : World) (p : Nat) (F : List Nat) (k : List UInt8) (ks : Ks) (h : DrA w p F (k :: ks)) :
    Calls Tryd.prog 8 #[.pointer (some ⟨p, 0, none⟩)] w fun e w' => e = .returned (.tuple #[.agg (bvs k).toArray, .int .i64 0]) ∧ DrTo DrA p F ks w w' := by
  have H0 := Lib.hid h.foot
  have HD := Lib.hid h
  clear h
  go_enter Tryd.func8, Tryd.ntmps8
  go_wp2_with (with_reducible change wpList _ _ _ (⟨_, Op.alloc _, _, _, _, _⟩ :: _) _ _; refine wpList_alloc_blk rfl 32 rfl _ zero32 ?_)
  intro w1 hR1 hk1 hs1
  obtain ⟨r, hr⟩ : ∃ r, r = w.heap.size := ⟨_, rfl⟩
  rw [← hr] at hR1 ⊢
  have HD1 := Lib.hid (HD.out.kept hk1 (by simp))
  have Hr := Lib.hid hr
  have HK1 := Lib.hid hk1
  have HS1 := Lib.hid hs1
  have HR1 := Lib.hid hR1
  clear hr hk1 hs1 hR1
  go_wp2_with fail
  refine (dSome_one _ p F k ks HD1.out).mono ?_
  rintro e w2 ⟨A, n, c, rfl, hr2, hd2⟩
  obtain rfl : 1 = n := hr2.len
  obtain ⟨b, off, k', rfl, hk', hkl, hcell, _⟩ := hr2.key (j := 0) (by omega)
  obtain rfl : k = k' := by simpa using hk'
  rw [Nat.zero_mul, Nat.add_zero] at hcell
  have b1 := hr2.cap
  have HD2 := Lib.hid hd2
  have hR2 : Blk w2 r 32 (zb 32) := by
    obtain ⟨F', _, hk, _⟩ := hd2
    exact HR1.out.kept hk (fun hm => by have := H0.out r hm; have := Hr.out; omega)
  have HR2 := Lib.hid hR2
  have HC := Lib.hid hcell
  have Hsk := Lib.hid (size_of_len (P := Tryd.prog) (ty := 32) size32 hkl)
  have Hzk : Hid ((zb 32).length = (bvs k).length) := Lib.hid (by rw [zb_length, bvs_length, hkl])
  have Hok := Lib.hid (bvs_one k)
  clear hd2 hR2 hcell hr2 hk' hkl
  go_wp2_with (first
    | (with_reducible change wpList _ _ _ (⟨_, Op.load _ _, _, _, _, _⟩ :: _) _ _; refine wpList_load_mid rfl 32 (.tmp 16) rfl b off rfl (bvs k) _ HC.out arr32b rfl Hsk.out ?_)
    | (with_reducible change wpList _ _ _ (⟨_, Op.store _ _ _, _, _, _, _⟩ :: _) _ _; refine wpList_store_blk rfl 32 (.tmp 2) (.tmp 17) rfl r (bvs k) rfl rfl 32 (zb 32) HR2.out Hsk.out Hzk.out Hok.out ?_))
  intro w3 hR3 hk3 hs3
  go_wp2
  refine bodyPost_ret (results_blk2 rfl _ r 32 _ _ _ rfl rfl hR3 arr32b rfl Hsk.out) rfl ?_
  exact ⟨rfl, HD2.out.aside H0.out Hr.out HK1.out HS1.out hk3⟩

theorem drHas : DrHas DrA where
  kept := DrA.kept
  foot := DrA.foot
  new := dNew_any
  next := dNext_one
  none_ := dNext_none
  some_ := dSome_any
  more := fun w p F ks A n c ms h hr _ hlen => dMore_any w p F ks A n c ms h hr hlen
  left_ := fun w p F ks h _ => dLeft_any w p F ks h
end Go.Proofs.YtmhigipljplgdaaDoor
