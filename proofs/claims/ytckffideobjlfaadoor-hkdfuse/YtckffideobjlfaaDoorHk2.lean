/-
  Contracts of layer 4 (hkdf): what is extracted, the next tag. No statement of the seed is proved here.
-/
import Derived.Test.YtckffideobjlfaaDoorHk1
import Derived.Test.YtckffideobjlfaaDoorHkMath
import Derived.Deep.RegionHeld3
namespace Go.Proofs.YtckffideobjlfaaDoor
open Go.RowKit
set_option linter.unusedVariables false

theorem hkX_any (A A' : Option Addr) (n c n' c' : Nat) (salt text : List UInt8) (w : World) (hr : RdB w A n c salt) (hp : RdB w A' n' c' text) (hgl : Glob w) (hL : n < 1099511600000) (hM : n' < 1099511000000) :
    Calls Tryd.prog 7 #[.slice A n c, .slice A' n' c'] w (KeyRet (hTag salt text) w) := by
  have ht := hTag_length salt text
  go_enter Tryd.func7, Tryd.ntmps7
  go_wp2_with (with_reducible change wpList _ _ _ (⟨_, Op.alloc _, _, _, _, _⟩ :: _) _ _; refine wpList_alloc_blk rfl 25 rfl _ zero32 ?_)
  intro w1 hR1 hk1 hs1
  go_wp2_with fail
  refine (hTagF_any A A' n c n' c' salt text _ (hr.kept0 hk1) (hp.kept0 hk1) (hgl.kept0 hk1) hL hM).mono ?_
  rintro e w2 ⟨rfl, hk2⟩
  have hR2 := hR1.kept0 hk2
  have hK2 := hk1.andThen hk2
  clear hR1 hk1 hk2
  go_wp2_with (with_reducible change wpList _ _ _ (⟨_, Op.store _ _ _, _, _, _, _⟩ :: _) _ _; refine wpList_store_blk rfl 25 (.tmp 4) (.tmp 7) rfl w.heap.size (bvs (hTag salt text)) rfl rfl 25 (zb 32) hR2 (size_of_len size32 ht) (zb_len ht) (bvs_one _) ?_)
  intro w3 hR3 hk3 hs3
  go_wp2
  refine bodyPost_ret (results_blk rfl _ w.heap.size 25 _ _ rfl hR3 Tryd.underlying25 rfl (size_of_len size32 ht)) rfl ?_
  exact ⟨rfl, hK2.trans hk3 (by simp)⟩

set_option maxRecDepth 100000 in
set_option maxHeartbeats 4000000 in
theorem hkN_any (key : List UInt8) (A A' : Option Addr) (n c n' c' : Nat) (last info : List UInt8) (i : Nat) (z : Int) (w : World) (hkl : key.length = 32) (hl : RdB w A n c last) (hi : RdB w A' n' c' info) (hgl : Glob w) (hz : z = (i : Int)) (hib : i ≤ 255) (hn : n ≤ 1000) (hn' : n' ≤ 100000) :
    Calls Tryd.prog 16 #[.agg (bvs key).toArray, .slice A n c, .slice A' n' c', .int .i64 z] w (KeyRet (hTag key (last ++ info ++ [UInt8.ofNat i])) w) := by
  subst hz
  have hB := Blk.new w 25 (bvs key)
  have hK1 : Kept [] w (w.alloc (.cells (bvs key).toArray 25)) := (Kept.refl [] w).alloc _
  have hs1 : (w.alloc (.cells (bvs key).toArray 25)).heap.size = w.heap.size + 1 := by simp
  have Hkl := Lib.hid hkl
  go_enter Tryd.func16, Tryd.ntmps16
  go_wp2_with (first
    | (with_reducible change wpList _ _ _ (⟨_, Op.box _ _, _, _, _, _⟩ :: _) _ _; refine Great.wpList_boxTo rfl 25 _ rfl _ rfl w.heap.size rfl (bvs key).toArray rfl ?_; generalize w.alloc (.cells (bvs key).toArray 25) = w1 at *)
    | (with_reducible change wpList _ _ _ (⟨_, Op.alloc _, _, _, _, _⟩ :: _) _ _; refine wpList_alloc_blk rfl 25 rfl _ zero32 ?_))
  intro w2 hR2 hk2 hs2
  have hB2 := hB.kept0 hk2
  have hK2 := hK1.andThen hk2
  obtain ⟨g4, hg4⟩ : ∃ g, g = w.heap.size := ⟨_, rfl⟩
  obtain ⟨g8, hg8⟩ : ∃ g, g = w.heap.size + 1 := ⟨_, rfl⟩
  rw [← hg8] at hR2 ⊢
  rw [← hg4] at hB2 ⊢
  have hw8 : w.heap.size ≤ g8 := by omega
  have h48 : g4 ≠ g8 := by omega
  clear hB hK1 hk2 hs2 hs1 hg4 hg8 hkl
  have hcutK := fun g => run_cut_all (P := Tryd.prog) 25 5 32 g 0 arr32b size1b (by omega)
  have hy : IntKind.u8.wrap (i : Int) = ((UInt8.ofNat i).toNat : Int) := by
    rw [UInt8.toNat_ofNat']
    simp [IntKind.wrap, IntKind.bits, IntKind.signed]
  have hA3 : Kept [] w2 (((w2.alloc (.cells #[.int .u8 (IntKind.u8.wrap (i : Int))] 5)).alloc (.cells #[.slice A n c, .slice A' n' c', .slice (some ⟨w2.heap.size, 0, none⟩) 1 1] 22)).drew) := (((Kept.refl [] w2).alloc _).alloc _).drew
  have hL3 : RdL (((w2.alloc (.cells #[.int .u8 (IntKind.u8.wrap (i : Int))] 5)).alloc (.cells #[.slice A n c, .slice A' n' c', .slice (some ⟨w2.heap.size, 0, none⟩) 1 1] 22)).drew) (some ⟨w2.heap.size + 1, 0, none⟩) 3 3 [last, info, [UInt8.ofNat i]] := by
    have h1 := RdL.three 22 ((hl.kept0 hK2).alloc (.cells #[.int .u8 (IntKind.u8.wrap (i : Int))] 5)) ((hi.kept0 hK2).alloc (.cells #[.int .u8 (IntKind.u8.wrap (i : Int))] 5)) (RdB.one w2 5 _ (UInt8.ofNat i) hy)
    have h2 := h1.kept0 (Kept.refl [] _).drew
    simpa using h2
  have hfl : [last, info, [UInt8.ofNat i]].flatten = last ++ info ++ [UInt8.ofNat i] := by simp
  have hfn : [last, info, [UInt8.ofNat i]].flatten.length ≤ 1000000 := by rw [hfl]; have h1 := hl.len; have h2 := hi.len; simp; omega
  have HL := Lib.hid hL3
  have HA := Lib.hid hA3
  have Hfl := Lib.hid hfl
  have Hfn := Lib.hid hfn
  have Hgl := Lib.hid (hgl.kept0 hK2)
  have HB := Lib.hid hB2
  have HR := Lib.hid hR2
  have HW := Lib.hid hK2
  clear hL3 hA3 hfl hfn hgl hB2 hR2 hK2 hy hl hi
  go_upto_region 1 with fail
  go_region_held3 (fun w' => True) (trivial) (first
      | (go_at_call 21; refine (concat_any _ 3 3 _ _ HL.out Hfn.out).mono ?_; rw [Hfl.out]; rintro e w3 ⟨v3, rfl, ho3, hk3, hb3⟩; obtain ⟨A3, n3, c3, rfl, hr3, _⟩ := ho3.form)
      | (go_at_call 14; refine (hTagF_any _ A3 32 32 n3 c3 key (last ++ info ++ [UInt8.ofNat i]) _ (((HB.out.kept0 HA.out).kept0 hk3).all 32 Hkl.out (by omega)) hr3 ((Hgl.out.kept0 HA.out).kept0 hk3) (by omega) (by have := hr3.len; have := Hfn.out; rw [Hfl.out] at this; omega)).mono ?_; rintro e w4 ⟨rfl, hk4⟩; have f1 := bvs_one (hTag key (last ++ (info ++ [UInt8.ofNat i]))); have f2 : w4.there g8 0 (bvs (hTag key (last ++ (info ++ [UInt8.ofNat i])))).length := (((HR.out.kept0 HA.out).kept0 hk3).kept0 hk4).there _ (by rw [bvs_length, hTag_length]; rfl); have f3 := size_of_len size32 (hTag_length key (last ++ (info ++ [UInt8.ofNat i])))))
  rw [← List.append_assoc] at f1 f2 f3 ⊢
  have ht := hTag_length key (last ++ info ++ [UInt8.ofNat i])
  have hR4 := (((HR.out.kept0 HA.out).kept0 hk3).kept0 hk4)
  have hR5 := hR4.setAll (zb_len ht)
  have hk5 := kept_setCells (g := g8) (bvs (hTag key (last ++ info ++ [UInt8.ofNat i]))) w4 0
  have hK5 := ((((HW.out.andThen HA.out).andThen hk3).andThen hk4).trans hk5 (by simp; omega))
  generalize w4.setCells g8 0 (bvs (hTag key (last ++ info ++ [UInt8.ofNat i]))) = w5 at *
  clear hR4 hk5 f1 f2 f3 hk3 hk4 HA HL HW HR HB Hgl hr3 ho3 hb3
  go_wp2
  refine bodyPost_ret (results_blk rfl _ g8 25 _ _ rfl hR5 Tryd.underlying25 rfl (size_of_len size32 ht)) rfl ?_
  exact ⟨rfl, hK5⟩
end Go.Proofs.YtckffideobjlfaaDoor
