/-
  Contract of layer 11, the document's own: the key that slices tell. No statement of the seed is proved here.
-/
import Derived.Test.YtmjeojbdieaakaaDoorAo3
import Derived.Test.YtmjeojbdieaakaaDoorAo5
import Derived.Test.YtmjeojbdieaakaaDoorPb
namespace Go.Proofs.YtmjeojbdieaakaaDoor
open Go.RowKit
set_option linter.unusedVariables false

/-- The key that a package tells. -/
@[irreducible] def keyL (C : Nat) (all : List UInt8) : List UInt8 := xorL (shaSum (all.take (C + 16))) ((all.drop (C + 16)).take 32)
theorem keyL_length {C : Nat} {all : List UInt8} (h : C + 48 ≤ all.length) : (keyL C all).length = 32 := by
  unfold keyL xorL
  rw [List.length_zipWith, shaSum_length, List.length_take, List.length_drop]
  omega
@[irreducible] def aKeyV (cl : Int) (ls : List (List UInt8)) : List UInt8 := if joinE cl ls = 0 then keyL cl.toNat ls.flatten else List.replicate 32 0
theorem joinE_yes {cl : Int} {ls : List (List UInt8)} (h : joinE cl ls = 0) : isCls cl = true ∧ 1 ≤ ls.length ∧ ls.length ≤ 255 ∧ ∀ l, l ∈ ls → l.length = sizN cl.toNat ls.length := by
  unfold joinE at h
  by_cases h1 : isCls cl = true ∧ 1 ≤ ls.length ∧ ls.length ≤ 255
  · rw [if_neg (fun f => f h1)] at h
    by_cases h2 : ∃ l, l ∈ ls ∧ l.length ≠ sizN cl.toNat ls.length
    · rw [if_pos h2] at h; exact absurd h (by decide)
    · refine ⟨h1.1, h1.2.1, h1.2.2, fun l hl => ?_⟩
      by_cases h3 : l.length = sizN cl.toNat ls.length
      · exact h3
      · exact absurd ⟨l, hl, h3⟩ h2
  · rw [if_pos h1] at h; exact absurd h (by decide)
/-- What is known of slices that can be joined. -/
theorem join_facts {cl : Int} {ls : List (List UInt8)} (h : joinE cl ls = 0) : ∃ C : Nat, cl = (C : Int) ∧ isCls (C : Int) = true ∧ C ≤ 1024 ∧ 1 ≤ ls.length ∧ ls.length ≤ 255 ∧ ls.flatten.length = ls.length * sizN C ls.length ∧ C + 48 ≤ ls.flatten.length ∧ ls.flatten.length ≤ 2000 := by
  obtain ⟨h1, h2, h3, h4⟩ := joinE_yes h
  obtain ⟨C, rfl⟩ : ∃ C : Nat, cl = (C : Int) := ⟨cl.toNat, by have := isCls_cases h1; omega⟩
  have h5 := flatten_len _ h4
  rw [Int.toNat_natCast] at h5
  have h6 := sizN_mul (c := C) h2
  have h7 := isCls_cases h1
  exact ⟨C, rfl, h1, by omega, h2, h3, h5, by omega, by omega⟩

set_option maxRecDepth 100000 in
set_option maxHeartbeats 4000000 in
theorem rAKey_no (cl : Int) (A : Option Addr) (n c : Nat) (ls : List (List UInt8)) (w : World) (hr : RdL w A n c ls) (h : joinE cl ls ≠ 0) :
    Calls Tryd.prog 17 #[.int .i64 cl, .slice A n c] w fun e w' => e = .returned (.tuple #[.agg (bvs (aKeyV cl ls)).toArray, .int .i64 (joinE cl ls)]) ∧ Kept [] w w' := by
  have HK : Hid (aKeyV cl ls = List.replicate 32 0) := Lib.hid (by unfold aKeyV; rw [if_neg h])
  have HV := Lib.hid (joinV_no h)
  rw [HK.out]
  obtain ⟨E, hE⟩ : ∃ E, joinE cl ls = E := ⟨_, rfl⟩
  rw [hE] at h ⊢
  have HE := Lib.hid hE
  have HR := Lib.hid hr
  have b1 := hr.cap
  have b2 := hr.most
  unfold maxLen at b2
  clear hE hr
  go_enter Tryd.func17, Tryd.ntmps17
  go_wp2_with (with_reducible change wpList _ _ _ (⟨_, Op.alloc _, _, _, _, _⟩ :: _) _ _; refine wpList_alloc_blk rfl 24 rfl _ zero32 ?_)
  intro w1 hR1 hk1 hs1
  go_wp2_with fail
  refine (rAJoin_any cl A n c ls _ (HR.out.kept0 hk1)).mono ?_
  rw [HE.out, HV.out]
  rintro e w2 ⟨v2, rfl, ho2, hk2, hb2⟩
  have hR2 := hR1.kept0 hk2
  have hK2 := hk1.andThen hk2
  have hb : E ≠ 0 := h
  have HB0 := Lib.hid builtKey
  clear hR1 hk1 hk2 ho2 hb2
  go_wp2_with (first
    | (with_reducible change wpList _ _ _ (⟨_, Op.build _ _, _, _, _, _⟩ :: _) _ _; refine Great.wpList_buildTo rfl 24 _ rfl _ rfl (zb 32).toArray (by simpa [Act.eval, Act.put] using HB0.out) ?_)
    | (with_reducible change wpList _ _ _ (⟨_, Op.store _ _ _, _, _, _, _⟩ :: _) _ _; refine wpList_store_blk rfl 24 (.tmp 4) (.tmp 18) rfl w.heap.size (zb 32) rfl rfl 24 (zb 32) hR2 zb_size rfl zb_one ?_))
  intro w3 hR3 hk3 hs3
  go_wp2
  refine bodyPost_ret (results_blk2 rfl _ w.heap.size 24 _ _ _ rfl rfl hR3 arr32b rfl zb_size) rfl ?_
  exact ⟨rfl, hK2.trans hk3 (by simp)⟩

set_option maxRecDepth 100000 in
set_option maxHeartbeats 4000000 in
theorem rAKey_yes (C : Nat) (A : Option Addr) (n c : Nat) (ls : List (List UInt8)) (w : World) (hr : RdL w A n c ls) (h : joinE (C : Int) ls = 0) (hC2 : C ≤ 1024) (hF1 : C + 48 ≤ ls.flatten.length) (hF2 : ls.flatten.length ≤ 2000) :
    Calls Tryd.prog 17 #[.int .i64 (C : Int), .slice A n c] w fun e w' => e = .returned (.tuple #[.agg (bvs (keyL C ls.flatten)).toArray, .int .i64 0]) ∧ Kept [] w w' := by
  have HE := Lib.hid h
  have HV := Lib.hid (joinV_ok h)
  obtain ⟨F, hF⟩ : ∃ F, ls.flatten = F := ⟨_, rfl⟩
  rw [hF] at HV hF1 hF2 ⊢
  obtain ⟨D, hD⟩ : ∃ D, shaSum (F.take (C + 16)) = D := ⟨_, rfl⟩
  have HD := Lib.hid hD
  have HDl : Hid (D.length = 32) := Lib.hid (by rw [← hD]; exact shaSum_length _)
  obtain ⟨X, hX⟩ : ∃ X, keyL C F = X := ⟨_, rfl⟩
  have HXl : Hid (X.length = 32) := Lib.hid (by rw [← hX]; exact keyL_length hF1)
  have HX : Hid (∀ (i : Nat) (x y : UInt8), i < 32 → D[i]? = some x → F[C + 16 + i]? = some y → X[i]? = some (x ^^^ y)) := Lib.hid (fun i x y hi h1 h2 => by
    rw [← hX]
    unfold keyL
    rw [hD]
    exact xorL_get h1 (by rw [List.getElem?_take, if_pos hi, List.getElem?_drop]; exact h2))
  rw [hX]
  obtain ⟨m, hm⟩ : ∃ m, F.length = m := ⟨_, rfl⟩
  have Hm := Lib.hid hm
  rw [hm] at hF1 hF2
  have HR := Lib.hid hr
  have b1 := hr.cap
  have b2 := hr.most
  unfold maxLen at b2
  have Hsk := Lib.hid (size_of_len (P := Tryd.prog) (ty := 24) size32 HDl.out)
  have Hsx := Lib.hid (size_of_len (P := Tryd.prog) (ty := 24) size32 HXl.out)
  have Hone := Lib.hid (bvs_one D)
  have Hox := Lib.hid (bvs_one X)
  have Hzd : Hid ((zb 32).length = (bvs D).length) := Lib.hid (by rw [zb_length, bvs_length, HDl.out])
  have Hzx : Hid ((zb 32).length = (bvs X).length) := Lib.hid (by rw [zb_length, bvs_length, HXl.out])
  clear hF hD hX hm hr h
  go_enter Tryd.func17, Tryd.ntmps17
  go_wp2_with (with_reducible change wpList _ _ _ (⟨_, Op.alloc _, _, _, _, _⟩ :: _) _ _; refine wpList_alloc_blk rfl 24 rfl _ zero32 ?_)
  intro w1 hR1 hk1 hs1
  go_wp2_with fail
  refine (rAJoin_any (C : Int) A n c ls _ (HR.out.kept0 hk1)).mono ?_
  rw [HE.out, HV.out]
  rintro e w2 ⟨v2, rfl, ho2, hk2, hb2⟩
  obtain ⟨A2, m2, c2, rfl, hr2, _⟩ := ho2.form
  obtain rfl : m2 = m := by have := hr2.len; rw [Hm.out] at this; exact this.symm
  obtain ⟨A1, hr1, q1⟩ := hr2.cutTo (P := Tryd.prog) 22 5 Tryd.underlying22 size1u (C + 16) ((C : Int) + 16) (by omega) (by omega)
  have HR2 := Lib.hid (hR1.kept0 hk2)
  have HK2 := Lib.hid (hk1.andThen hk2)
  have Hr2 := Lib.hid hr2
  have Hr1 := Lib.hid hr1
  have b3 := hr2.cap
  have b4 := hr2.most
  unfold maxLen at b4
  clear hR1 hk1 hk2 ho2 hb2 hr2 hr1 HR HE HV
  go_wp2_with (first
    | (go_at_call 20; refine (rSum_any A1 (C + 16) c2 (F.take (C + 16)) _ Hr1.out (by omega)).mono ?_; rw [HD.out]; rintro e w3 ⟨rfl, hk3⟩)
    | (with_reducible change wpList _ _ _ (⟨_, Op.alloc _, _, _, _, _⟩ :: _) _ _; refine wpList_alloc_blk rfl 24 rfl _ zero32 ?_))
  intro w4 hG4 hk4 hs4
  have hR4 := (HR2.out.kept0 hk3).kept0 hk4
  have hr4 := (Hr2.out.kept0 hk3).kept0 hk4
  have hK4 := (HK2.out.andThen hk3).andThen hk4
  go_wp2_with (with_reducible change wpList _ _ _ (⟨_, Op.store _ _ _, _, _, _, _⟩ :: _) _ _; refine wpList_store_blk rfl 24 (.tmp 8) (.tmp 24) rfl w3.heap.size (bvs D) rfl rfl 24 (zb 32) hG4 Hsk.out Hzd.out Hone.out ?_)
  intro w5 hG5 hk5 hs5
  obtain ⟨g, hg⟩ : ∃ g, g = w3.heap.size := ⟨_, rfl⟩
  rw [← hg] at hG4 hG5 hk5 ⊢
  obtain ⟨r, hrr⟩ : ∃ r, r = w.heap.size := ⟨_, rfl⟩
  have hs3 := hk3.size
  have hs2 := HK2.out.size
  have hwg : w.heap.size ≤ g := by omega
  have hR4l := HR2.out.lt
  rw [← hrr] at hR4 hR4l ⊢
  have hwr : w.heap.size ≤ r := by omega
  have hrg : r ≠ g := by omega
  have hr2l : ∀ a, A2 = some a → a.block ≠ g := by
    intro a' ha'
    obtain ⟨b, o, y, e, cb, _, _⟩ := Hr2.out.byte (k := 0) (by omega)
    have h1 : b < w2.heap.size := World.block_lt_of_cell? w2 _ cb
    rw [ha'] at e
    injection e with e
    subst e
    show b ≠ g
    omega
  have hR5 := hR4.kept hk5 (by simpa using hrg)
  have hr5 := hr4.kept hk5 (fun a' ha' hin => hr2l a' ha' (by simpa using hin))
  have hK5 : Kept [] w w5 := hK4.trans hk5 (fun i hi => .inr (by have := List.mem_singleton.1 hi; omega))
  have Hr5 := Lib.hid hr5
  have HRg : Hid (∀ a, A2 = some a → a.block ≠ g) := Lib.hid hr2l
  have HK5 := Lib.hid hK5
  clear hG4 hk4 hs4 hk5 hs5 hk3 hK4 hR4 hr4 hg hrr hs3 hs2 hr5 hr2l hR4l HR2 HK2 Hr2 Hr1 hK5
  go_wp2
  go_loopw [9] (fun i wr => ∃ q : Nat, q ≤ 32 ∧ i = .int .i64 (q : Int) ∧ Blk wr g 24 (ovr (bvs X) (bvs D) q) ∧ Blk wr r 24 (zb 32) ∧ Kept [g] w5 wr) (fun i _ => 32 - (intOf i).toNat)
  case atStart => exact ⟨0, by omega, rfl, by rw [ovr_zero]; exact hG5, hR5, Kept.refl _ _⟩
  case round =>
    clear hG5 hR5
    obtain ⟨q, hq, rfl, hG, hR, hK⟩ := hrel
    have HXD : Hid ((bvs X).length = (bvs D).length) := Lib.hid (by rw [bvs_length, bvs_length, HXl.out, HDl.out])
    by_cases hlt : q < 32
    · have hrq := Hr5.out.kept hK (fun a' ha' hin => HRg.out a' ha' (by simpa using hin))
      obtain ⟨J, hJ⟩ : ∃ J, J = C + 16 := ⟨_, rfl⟩
      obtain ⟨N, hN⟩ : ∃ N, N = C + 16 + q := ⟨_, rfl⟩
      have p1 : IntKind.i64.wrap ((C : Int) + 16) = (J : Int) := by rw [IntWalk.i64_in _ (by omega)]; omega
      have p2 : IntKind.i64.wrap ((J : Int) + (q : Int)) = (N : Int) := by rw [IntWalk.i64_in _ (by omega)]; omega
      obtain ⟨b, o, y, e2, c1, g1, _⟩ := hrq.byte (k := N) (by omega)
      subst e2
      obtain ⟨x, hx⟩ : ∃ x, D[q]? = some x := ⟨D[q]'(by have := HDl.out; omega), List.getElem?_eq_getElem _⟩
      have gX := HX.out q x y hlt hx (by rw [← hN]; exact g1)
      obtain ⟨s8, hs8⟩ : ∃ s8, s8 = x ^^^ y := ⟨_, rfl⟩
      have rx : bits .xor .u8 (x.toNat : Int) (y.toNat : Int) = (s8.toNat : Int) := by rw [bits_xorB, hs8]
      rw [← hs8] at gX
      have c2 : wr.cell? ⟨g, q, none⟩ = some (.int .u8 (x.toNat : Int)) := by
        rw [hG.cell, ovr_ge HXD.out (Nat.le_refl _) (by rw [bvs_length, HDl.out]; omega), bvs, List.getElem?_map, hx]
        rfl
      have f1 := hG.frz q
      have hset := ovr_set (n := q) HXD.out (by rw [bvs_length, HDl.out]; exact hlt) (v := .int .u8 (s8.toNat : Int)) (by rw [bvs, List.getElem?_map, gX]; rfl)
      have hnew := hG.set q (.int .u8 (s8.toNat : Int))
      rw [hset] at hnew
      have hRn := hR.set_other (b := g) q (.int .u8 (s8.toNat : Int)) hrg
      have hKn : Kept [g] w5 (wr.setCell ⟨g, q, none⟩ (.int .u8 (s8.toNat : Int))) := hK.setCell (by left; simp) _
      have zk : (q : Int) < 32 := by omega
      have zm : (N : Int) < (m2 : Int) := by omega
      clear hrq g1 hx gX hs8 hset hG hR hK hJ hN
      go_wp2
      go_still_tail 13, (by kernel_rfl)
      change wpList _ _ _ _ _ wr.drew
      go_wp2
      go_roundw
      case rel => exact ⟨q + 1, by omega, by go_num, hnew, hRn, hKn.drewN 1⟩
      case measure => simp [intOf]; omega
    · have hG' : Blk wr g 24 (bvs X) := by
        have h1 := ovr_all (n := q) HXD.out (by rw [bvs_length, HDl.out]; omega)
        rw [h1] at hG
        exact hG
      have HK6 : Hid (Kept [] w wr) := Lib.hid (HK5.out.trans hK (fun i hi => .inr (by have := List.mem_singleton.1 hi; omega)))
      clear hG hK
      go_wp2_with (first
        | (with_reducible change wpList _ _ _ (⟨_, Op.load _ _, _, _, _, _⟩ :: _) _ _; refine wpList_load_blk rfl 24 (.tmp 8) rfl g rfl 24 (bvs X) _ hG' Tryd.underlying24 rfl Hsx.out ?_)
        | (with_reducible change wpList _ _ _ (⟨_, Op.store _ _ _, _, _, _, _⟩ :: _) _ _; refine wpList_store_blk rfl 24 (.tmp 4) (.tmp 42) rfl r (bvs X) rfl rfl 24 (zb 32) hR Hsx.out Hzx.out Hox.out ?_))
      intro w20 hR20 hk20 hs20
      go_wp2
      refine bodyPost_ret (results_blk2 rfl _ r 24 _ _ _ rfl rfl hR20 arr32b rfl Hsx.out) rfl ?_
      exact ⟨rfl, HK6.out.trans hk20 (fun i hi => .inr (by have := List.mem_singleton.1 hi; omega))⟩
end Go.Proofs.YtmjeojbdieaakaaDoor
