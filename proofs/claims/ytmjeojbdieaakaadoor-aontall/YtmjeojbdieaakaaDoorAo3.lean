/-
  Contract of layer 11, the document's own: a secret's package, filled up. No statement of the seed is proved here.
-/
import Derived.Test.YtmjeojbdieaakaaDoorAo1
import Derived.Test.YtmjeojbdieaakaaDoorRc2
import Derived.Test.YtmjeojbdieaakaaDoorRf6
import Derived.Test.YtmjeojbdieaakaaDoorRh0
import Derived.Test.YtmjeojbdieaakaaDoorPb
namespace Go.Proofs.YtmjeojbdieaakaaDoor
open Go.RowKit
set_option linter.unusedVariables false

theorem xorL_get {a b : List UInt8} {i : Nat} {x y : UInt8} (h1 : a[i]? = some x) (h2 : b[i]? = some y) : (xorL a b)[i]? = some (x ^^^ y) := by
  unfold xorL
  rw [List.getElem?_zipWith, h1, h2]
theorem grow0 (X : List UInt8) (m : Nat) : X ++ List.replicate m 0 ++ [0] = X ++ List.replicate (m + 1) 0 := by
  rw [List.append_assoc, ← List.replicate_succ']
theorem no_mult {k m T : Nat} (hT : T % k = 0) (h2 : T < m + k) (j : Nat) (h3 : m ≤ j) (h4 : j < T) : j % k ≠ 0 := by
  intro h5
  have h6 : (T - j) % k = 0 := Nat.sub_mod_eq_zero_of_mod_eq (by rw [hT, h5])
  rw [Nat.mod_eq_of_lt (by omega)] at h6
  omega

set_option maxRecDepth 100000 in
set_option maxHeartbeats 4000000 in
theorem rWhole_any (key : List UInt8) (A : Option Addr) (n c k : Nat) (bs : List UInt8) (w : World) (hkl : key.length = 32) (hr : RdB w A n c bs) (hn : n ≤ 1000) (hk1 : 1 ≤ k) (hk2 : k ≤ 255) :
    Calls Tryd.prog 32 #[.agg (bvs sbox).toArray, .int .i64 (k : Int), .slice A n c, .agg (bvs key).toArray] w (CloneRet (pkgL k key bs) w) := by
  obtain ⟨i0, hi0, hz0, hz1, hz2⟩ := info_parts u8info
  have hlb := hr.len
  obtain ⟨C, hC⟩ : ∃ C, clsN n = C := ⟨_, rfl⟩
  have hC1 : n + 2 ≤ C := by rw [← hC]; exact clsN_ge hn
  have hC2 : C ≤ 1024 := by rw [← hC]; exact clsN_le n
  have HCv : Hid (clsV (n : Int) = .tuple #[.int .i64 (C : Int), .int .i64 0]) := Lib.hid (by rw [clsV_yes (by omega) (by omega), Int.toNat_natCast, hC])
  obtain ⟨J, hJ⟩ : ∃ J, J = C + 16 := ⟨_, rfl⟩
  obtain ⟨X, hX⟩ : ∃ X, be 2 n ++ bs = X := ⟨_, rfl⟩
  have HX := Lib.hid hX
  have HXl : Hid (X.length = n + 2) := Lib.hid (by rw [← hX, List.length_append, be_length, hlb]; omega)
  obtain ⟨I, hI⟩ : ∃ I, insL bs = I := ⟨_, rfl⟩
  have HIn : Hid (X ++ List.replicate (J - (n + 2)) 0 = I) := Lib.hid (by rw [← hI, ← hX, hJ]; unfold insL; rw [hlb, hC, show C + 16 - (n + 2) = C + 14 - n by omega])
  obtain ⟨H, hH⟩ : ∃ H, hidL key bs = H := ⟨_, rfl⟩
  have HHl : Hid (H.length = J) := Lib.hid (by rw [← hH, hidL_length (by omega), hlb, hC, hJ])
  have HHd : Hid (hide (aesWords key) (List.replicate 16 0) I = H) := Lib.hid (by rw [← hH, ← hI]; unfold hidL; rfl)
  obtain ⟨D, hD⟩ : ∃ D, shaSum H = D := ⟨_, rfl⟩
  have HD := Lib.hid hD
  have HDl : Hid (D.length = 32) := Lib.hid (by rw [← hD]; exact shaSum_length H)
  obtain ⟨Y, hY⟩ : ∃ Y, xorL D key = Y := ⟨_, rfl⟩
  have HYl : Hid (Y.length = 32) := Lib.hid (by rw [← hY]; unfold xorL; rw [List.length_zipWith, HDl.out, hkl]; rfl)
  have HY : Hid (∀ (i : Nat) (x y : UInt8), D[i]? = some x → key[i]? = some y → Y[i]? = some (x ^^^ y)) := Lib.hid (fun i x y h1 h2 => by rw [← hY]; exact xorL_get h1 h2)
  obtain ⟨T, hT⟩ : ∃ T, k * sizN C k = T := ⟨_, rfl⟩
  have hsz := sizN_mul (c := C) hk1
  rw [hT] at hsz
  have hT1 : J + 32 ≤ T := by omega
  have hT2 : T < J + 32 + k := by omega
  have hTm : T % k = 0 := by rw [← hT]; exact Nat.mul_mod_right k _
  have HTn := Lib.hid (no_mult (m := J + 32) hTm hT2)
  have HTm := Lib.hid hTm
  have HP : Hid (H ++ Y ++ List.replicate (T - (J + 32)) 0 = pkgL k key bs) := Lib.hid (by
    rw [← hY, ← hD, ← hH]
    unfold pkgL
    rw [hlb, hC, hT, show J + 32 = C + 48 by omega])
  obtain ⟨P, hP⟩ : ∃ P, pkgL k key bs = P := ⟨_, rfl⟩
  rw [hP] at HP ⊢
  have HJ := Lib.hid hJ
  have HR := Lib.hid hr
  have Hkl := Lib.hid hkl
  have b1 := hr.cap
  have b2 := hr.most
  unfold maxLen at b2
  have hJ2 : J ≤ 1040 := by omega
  have hJ3 : n + 2 ≤ J := by omega
  clear hX hI hH hD hY hT hsz hTm hP hC hJ
  have Hsk := Lib.hid (size_of_len (P := Tryd.prog) (ty := 24) sizeKey hkl)
  have Hss := Lib.hid (size_of_len (P := Tryd.prog) (ty := 26) size256 sbox_length)
  have hT0 := Blk.new w 26 (bvs sbox)
  have kT : Kept [] w (w.alloc (.cells (bvs sbox).toArray 26)) := (Kept.refl [] w).alloc _
  have sT : (w.alloc (.cells (bvs sbox).toArray 26)).heap.size = w.heap.size + 1 := by simp
  obtain ⟨w1, hw1⟩ : ∃ w1, w1 = w.alloc (.cells (bvs sbox).toArray 26) := ⟨_, rfl⟩
  rw [← hw1] at hT0 kT sT
  have hA0 := Blk.new w1 24 (bvs key)
  have kA : Kept [] w1 (w1.alloc (.cells (bvs key).toArray 24)) := (Kept.refl [] w1).alloc _
  have sA : (w1.alloc (.cells (bvs key).toArray 24)).heap.size = w1.heap.size + 1 := by simp
  obtain ⟨w2, hw2⟩ : ∃ w2, w2 = w1.alloc (.cells (bvs key).toArray 24) := ⟨_, rfl⟩
  rw [← hw2] at hA0 kA sA
  have hT := hT0.kept0 kA
  have hA := hA0
  have hK2 := kT.andThen kA
  obtain ⟨t, ht⟩ : ∃ t, t = w.heap.size := ⟨_, rfl⟩
  obtain ⟨a, ha⟩ : ∃ a, a = w1.heap.size := ⟨_, rfl⟩
  rw [← ht] at hT
  rw [← ha] at hA
  have Hl2 : Hid (t < w2.heap.size ∧ a < w2.heap.size ∧ w.heap.size ≤ w2.heap.size) := Lib.hid ⟨hT.lt, hA.lt, hK2.size⟩
  have W1 := Lib.hid hw1
  have W2 := Lib.hid hw2
  have T0 := Lib.hid ht
  have A0 := Lib.hid ha
  have HT := Lib.hid hT
  have HA := Lib.hid hA
  have HK2 := Lib.hid hK2
  clear hT0 kT sT hA0 kA sA hw1 hw2 ht ha hkl hr hT hA hK2 hlb
  go_enter Tryd.func32, Tryd.ntmps32
  go_wp2_with (first
    | (with_reducible change wpList _ _ _ (⟨_, Op.box _ (Operand.tmp 0), _, _, _, _⟩ :: _) _ _; refine Great.wpList_boxTo rfl 26 _ rfl _ rfl t T0.out.symm (bvs sbox).toArray rfl ?_; rw [← W1.out])
    | (with_reducible change wpList _ _ _ (⟨_, Op.box _ (Operand.tmp 3), _, _, _, _⟩ :: _) _ _; refine Great.wpList_boxTo rfl 24 _ rfl _ rfl a A0.out.symm (bvs key).toArray rfl ?_; rw [← W2.out])
    | (go_at_call 29; refine (rCls_any _ _).mono ?_; rw [HCv.out]; rintro e w' ⟨rfl, rfl⟩)
    | (go_at_call 43; refine (rfBytes_any (n : Int) 2 _ (by omega) (by omega) (by omega)).mono ?_; rintro e w3 ⟨v3, rfl, ho3, hk3, hb3⟩))
  obtain ⟨A3, n3, c3, rfl, hr3, _⟩ := ho3.form
  rw [Int.toNat_natCast] at hr3
  have hl3 : n3 = 2 := by have := hr3.len; rw [be_length] at this; exact this.symm
  refine (rJoin_any A3 A n3 c3 n c (be 2 n) bs _ hr3 ((HR.out.kept0 HK2.out).kept0 hk3) (by omega) (by omega)).mono ?_
  rw [HX.out]
  rintro e w4 ⟨v4, rfl, ho4, hk4, hb4⟩
  obtain ⟨A4, n4, c4, rfl, hr4, _⟩ := ho4.form
  obtain rfl : n4 = n + 2 := by have := hr4.len; rw [HXl.out] at this; exact this.symm
  have hk34 := hk3.andThen hk4
  have hT4 := HT.out.kept0 hk34
  have hA4 := HA.out.kept0 hk34
  have hK4 := HK2.out.andThen hk34
  have Hs4 : Hid (w2.heap.size ≤ w4.heap.size) := Lib.hid hk34.size
  have Hb4 : Hid (∀ g, (Value.slice A4 (n + 2) c4).ownBlock = some g → w2.heap.size ≤ g) := Lib.hid (fun g hg => Nat.le_trans hk3.size (hb4 g hg))
  clear hr3 hl3 ho3 hk3 hb3 hr4 hk4 hb4 hk34 W1 W2 T0 A0 HR HT HA HK2 HX HCv
  go_wp2
  go_loopw [11] (fun v wr => ∃ (j : Nat) (A5 : Option Addr) (c5 : Nat), n + 2 ≤ j ∧ j ≤ J ∧ v = .slice A5 j c5 ∧ OwB 5 wr (.slice A5 j c5) (X ++ List.replicate (j - (n + 2)) 0) ∧ Blk wr t 26 (bvs sbox) ∧ Blk wr a 24 (bvs key) ∧ Kept [] w wr ∧ Hid (w2.heap.size ≤ wr.heap.size) ∧ Hid (∀ g, (Value.slice A5 j c5).ownBlock = some g → w2.heap.size ≤ g)) (fun v _ => J + 1 - slenH v)
  case atStart => exact ⟨n + 2, A4, c4, Nat.le_refl _, hJ3, rfl, by rw [Nat.sub_self, List.replicate_zero, List.append_nil]; exact ho4, hT4, hA4, hK4, Hs4, Hb4⟩
  case round =>
    clear ho4 hT4 hA4 hK4 Hs4 Hb4
    obtain ⟨j, A5, c5, hj1, hj2, rfl, ho, hT, hA, hK, Hsz, Hb⟩ := hrel
    have Hl : Hid ((X ++ List.replicate (j - (n + 2)) 0).length = j) := Lib.hid (by rw [List.length_append, List.length_replicate, HXl.out]; omega)
    by_cases hlt : j < J
    · have HE : Hid (X ++ List.replicate (j - (n + 2)) 0 ++ [0] = X ++ List.replicate (j + 1 - (n + 2)) 0) := Lib.hid (by rw [grow0, show j + 1 - (n + 2) = j - (n + 2) + 1 by omega])
      generalize X ++ List.replicate (j - (n + 2)) 0 = Z at *
      have HO := Lib.hid ho
      have HK := Lib.hid hK
      have HTA := Lib.hid (And.intro hT hA)
      have hlJ : (j : Int) < (C : Int) + 16 := by have := HJ.out; omega
      clear ho hT hA hK
      go_wp2_with (at_builtin; refine wpList_append_bytes rfl (.tmp 32) (.tmp 33) 22 rfl 5 i0 _ 1 Tryd.underlying22 hi0 hz0 hz1 hz2 rfl (.slice A5 j c5) Z rfl (HO.out.alloc _) _ 1 1 [0] rfl (RdB.one _ 5 0 0 rfl) (by rw [Hl.out]; simp only [maxLen]; omega) (by rw [Hl.out]; omega) ?_)
      intro v8 w8 ho8 hk8 hm8
      obtain ⟨A8, n8, c8, rfl, hr8, _⟩ := ho8.form
      obtain rfl : n8 = j + 1 := by have := hr8.len; rw [List.length_append, Hl.out] at this; exact this.symm
      rw [HE.out] at ho8
      have kq : Kept [] wr (wr.alloc (.cells #[.int .u8 0] 5)) := (Kept.refl [] wr).alloc _
      have hT8 := (HTA.out.1.kept0 kq).kept hk8 (fun hm => by have := Hb.out t (by simpa using hm); have := Hl2.out; omega)
      have hA8 := (HTA.out.2.kept0 kq).kept hk8 (fun hm => by have := Hb.out a (by simpa using hm); have := Hl2.out; omega)
      have hK8 : Kept [] w w8 := (HK.out.andThen kq).trans hk8 (fun i hi => by right; have := Hb.out i (by simpa using hi); have := Hl2.out; omega)
      have Hs8 : Hid (w2.heap.size ≤ w8.heap.size) := Lib.hid (Nat.le_trans Hsz.out (Nat.le_trans kq.size hk8.size))
      have Hb8 : Hid (∀ g, (Value.slice A8 (j + 1) c8).ownBlock = some g → w2.heap.size ≤ g) := Lib.hid (fun g hg => by
        rcases hm8 g hg with h | h
        · exact Hb.out g h
        · exact Nat.le_trans Hsz.out (Nat.le_trans kq.size h))
      clear hr8 hk8 hm8 HO HK HTA HE Hl kq Hsz Hb
      go_wp2
      go_roundw
      case rel => exact ⟨j + 1, A8, c8, by omega, by omega, rfl, ho8, hT8, hA8, hK8, Hs8, Hb8⟩
      case measure => simp [slenH]; omega
    · obtain rfl : J = j := by omega
      rw [HIn.out] at ho
      have HB0 := Lib.hid built16
      have Hsw := Lib.hid hK.size
      have hwC : ¬ (J : Int) < (C : Int) + 16 := by have := HJ.out; omega
      have HT := Lib.hid hT
      have HA := Lib.hid hA
      have HK := Lib.hid hK
      have HO := Lib.hid ho
      clear hT hA hK ho Hb Hl
      go_wp2_with (first
        | (with_reducible change wpList _ _ _ (⟨_, Op.load _ (Operand.tmp 4), _, _, _, _⟩ :: _) _ _; refine wpList_load_blk rfl 26 (.tmp 4) rfl t rfl 26 _ _ HT.out arr256b rfl Hss.out ?_)
        | (with_reducible change wpList _ _ _ (⟨_, Op.load _ (Operand.tmp 7), _, _, _, _⟩ :: _) _ _; refine wpList_load_blk rfl 24 (.tmp 7) rfl a rfl 24 _ _ HA.out arrKey rfl Hsk.out ?_)
        | (with_reducible change wpList _ _ _ (⟨_, Op.build _ _, _, _, _, _⟩ :: _) _ _; refine Great.wpList_buildTo rfl 58 _ rfl _ rfl (zb 16).toArray (by simpa [Act.eval, Act.put] using HB0.out) ?_))
      refine (rfast_own key (List.replicate 16 0) A5 J c5 I _ Hkl.out rfl HO.out.rd (by omega)).mono ?_
      rw [HHd.out]
      rintro e w6 ⟨A6, c6, rfl, ho6, hk6, hb6⟩
      have HO6 := Lib.hid ho6
      have HK6 := Lib.hid hk6
      have HB6 := Lib.hid hb6
      clear ho6 hk6 hb6
      go_wp2_with (first
        | (go_at_call 20; refine (rSum_any A6 J c6 H _ HO6.out.rd (by omega)).mono ?_; rw [HD.out]; rintro e w7 ⟨rfl, hk7⟩)
        | (go_at_call 54; refine (rBytes_any D _ HDl.out).mono ?_; rintro e w8 ⟨v8, rfl, ho8, hk8, hb8⟩))
      have HK7 := Lib.hid hk7
      clear hk7
      obtain ⟨A8, n8, c8, rfl, hr8, _⟩ := ho8.form
      obtain rfl : n8 = 32 := by have := hr8.len; rw [HDl.out] at this; exact this.symm
      have Hrd8 := Lib.hid hr8
      have hk68 := HK7.out.andThen hk8
      have ho9 := HO6.out.kept0 hk68
      have hA9 := (HA.out.kept0 HK6.out).kept0 hk68
      have hK9 := (HK.out.andThen HK6.out).andThen hk68
      have hlo : ∀ g, (Value.slice A6 J c6).ownBlock = some g → g < w6.heap.size := by obtain ⟨_, _, _, _, _, hh⟩ := HO6.out.form; exact hh
      have Hs9 : Hid (w2.heap.size ≤ w8.heap.size) := Lib.hid (Nat.le_trans Hsz.out (Nat.le_trans HK6.out.size hk68.size))
      have Hb9 : Hid (∀ g, (Value.slice A6 J c6).ownBlock = some g → w2.heap.size ≤ g ∧ ∀ h, (Value.slice A8 32 c8).ownBlock = some h → g ≠ h) := Lib.hid (fun g hg => ⟨Nat.le_trans Hsz.out (HB6.out g hg), fun h hh => by
        have h1 := hlo g hg
        have h2 := hb8 h hh
        have h3 := HK7.out.size
        omega⟩)
      clear hlo hb8 hk8 hk68 ho8 hr8 HT HA HK HO HK6 HK7 HO6 HB6 HB0
      have Hw8 := Lib.hid hK9.size
      go_loopw [14, 12] (fun i v wr => ∃ (q m : Nat) (A9 : Option Addr) (c9 : Nat), q ≤ 32 ∧ m = J + q ∧ i = .int .i64 (q : Int) ∧ v = .slice A9 m c9 ∧ OwB 5 wr (.slice A9 m c9) (H ++ Y.take q) ∧ Blk wr a 24 (bvs key) ∧ Hid (RdB wr A8 32 c8 D) ∧ Kept [] w wr ∧ Hid (w2.heap.size ≤ wr.heap.size) ∧ Hid (∀ g, (Value.slice A9 m c9).ownBlock = some g → w2.heap.size ≤ g ∧ ∀ h, (Value.slice A8 32 c8).ownBlock = some h → g ≠ h)) (fun i _ _ => 32 - (intOf i).toNat)
      case atStart => exact ⟨0, J, A6, c6, by omega, rfl, rfl, rfl, by rw [List.take_zero, List.append_nil]; exact ho9, hA9, Hrd8, hK9, Hs9, Hb9⟩
      case round =>
        clear ho9 hA9 Hrd8 hK9 Hs9 Hb9
        obtain ⟨q, m, A9, c9, hq, hm, rfl, rfl, ho, hA, Hrd, hK, Hsz, Hb⟩ := hrel
        have Hl : Hid ((H ++ Y.take q).length = m) := Lib.hid (by rw [List.length_append, List.length_take, HHl.out, HYl.out]; omega)
        by_cases hlt : q < 32
        · obtain ⟨b, o, x, hA', c1, g1, _⟩ := Hrd.out.byte hlt
          subst hA'
          obtain ⟨y, hy⟩ : ∃ y, key.getD q 0 = y := ⟨_, rfl⟩
          have c2 := (hA.cell q).trans (bvs_at (by have := Hkl.out; omega))
          have gk : key[q]? = some y := by
            rw [List.getD_eq_getElem?_getD] at hy
            rw [List.getElem?_eq_getElem (by have := Hkl.out; omega)] at hy ⊢
            exact congrArg some hy
          rw [hy] at c2
          have gY := HY.out q x y g1 gk
          obtain ⟨s8, hs8⟩ : ∃ s8, s8 = x ^^^ y := ⟨_, rfl⟩
          have rx : bits .xor .u8 (x.toNat : Int) (y.toNat : Int) = (s8.toNat : Int) := by rw [bits_xorB, hs8]
          rw [← hs8] at gY
          have Hst : Hid (H ++ Y.take q ++ [s8] = H ++ Y.take (q + 1)) := Lib.hid (by rw [List.append_assoc, ← take_step Y q s8 gY])
          generalize H ++ Y.take q = Z at *
          have htlt : b < wr.heap.size := World.block_lt_of_cell? wr _ c1
          have hvlt := hA.lt
          have SK : Hid (∀ W, Kept [] wr W → W.cell? ⟨b, o + q, none⟩ = some (.int .u8 (x.toNat : Int)) ∧ W.cell? ⟨a, q, none⟩ = some (.int .u8 (y.toNat : Int))) := fun W hk =>
            ⟨(hk.cell (p := ⟨b, o + q, none⟩) htlt (by simp)).trans c1, (hk.cell (p := ⟨a, q, none⟩) hvlt (by simp)).trans c2⟩
          have K0 : Hid (Kept [] wr wr.drew) := (Kept.refl [] wr).drew
          have K1 : Hid (Kept [] wr (wr.alloc (.cells #[.int .u8 (s8.toNat : Int)] 5)).drew) := ((Kept.refl [] wr).alloc _).drew
          have R1 : Hid (RdB (wr.alloc (.cells #[.int .u8 (s8.toNat : Int)] 5)).drew (some ⟨wr.heap.size, 0, none⟩) 1 1 [s8]) := (RdB.one wr 5 _ s8 rfl).kept0 (Kept.refl [] _).drew
          have hzq : (q : Int) < 32 := by omega
          have HO := Lib.hid ho
          have HK := Lib.hid hK
          have HA := Lib.hid hA
          have Hm := Lib.hid hm
          have Hnb : Hid (∀ g, (Value.slice A9 m c9).ownBlock = some g → g ≠ b) := Lib.hid (fun g hg => (Hb.out g hg).2 b rfl)
          have hm2 : m ≤ 2000 := by omega
          clear hy gk gY hs8 ho hK hA g1 hm
          go_wp2
          go_region_held3 (fun w' => w'.cell? ⟨b, o + q, none⟩ = some (.int .u8 (x.toNat : Int)) ∧ w'.cell? ⟨a, q, none⟩ = some (.int .u8 (y.toNat : Int)))
            (first
              | exact SK.out _ (Kept.refl [] wr)
              | exact SK.out _ K0.out
              | exact SK.out _ K1.out
              | exact ⟨(hk9.cell (p := ⟨b, o + q, none⟩) (Nat.lt_of_lt_of_le htlt K1.out.size) (fun hm => Hnb.out b (by simpa using hm) rfl)).trans (SK.out _ K1.out).1, (hk9.cell (p := ⟨a, q, none⟩) (Nat.lt_of_lt_of_le hvlt K1.out.size) (fun hm => by have := (Hb.out a (by simpa using hm)).1; have := Hl2.out; omega)).trans (SK.out _ K1.out).2⟩)
            (first
              | (refine step_append_bytes (by rfl) (.tmp 47) (.tmp 56) 22 (by rfl) 5 i0 _ 1 Tryd.underlying22 hi0 hz0 hz1 hz2 (by rfl) _ Z (by rfl) (HO.out.kept0 K1.out) _ 1 1 _ (by rfl) R1.out (by rw [Hl.out]; simp only [maxLen]; omega) (by rw [Hl.out]; omega) ?_; intro v9 w9 ho9 hk9 hm9))
          obtain ⟨A5, n5, c5, rfl, hr5, _⟩ := ho9.form
          rw [Hst.out] at ho9
          obtain rfl : m + 1 = n5 := by have := hr5.len; rw [List.length_append, Hl.out] at this; exact this
          have Hsz9 : Hid (w2.heap.size ≤ w9.heap.size) := Lib.hid (Nat.le_trans Hsz.out (Nat.le_trans K1.out.size hk9.size))
          have Hb9 : Hid (∀ g, (Value.slice A5 (m + 1) c5).ownBlock = some g → w2.heap.size ≤ g ∧ ∀ h, (Value.slice (some ⟨b, o, none⟩) 32 c8).ownBlock = some h → g ≠ h) := Lib.hid (fun g hg => by
            rcases hm9 g hg with h | h
            · exact Hb.out g h
            · refine ⟨Nat.le_trans (Nat.le_trans Hsz.out K1.out.size) h, fun h' hh' e => ?_⟩
              have e2 : b = h' := by simpa [Value.ownBlock] using hh'
              have := K1.out.size
              omega)
          have hA9 := (HA.out.kept0 K1.out).kept hk9 (fun hm => by have := (Hb.out a (by simpa using hm)).1; have := Hl2.out; omega)
          have Hr9 : Hid (RdB w9 (some ⟨b, o, none⟩) 32 c8 D) := Lib.hid ((Hrd.out.kept0 K1.out).keptIf hk9 (fun _ a' ha' hin => by
            injection ha' with ha'
            subst ha'
            exact Hnb.out b (by simpa using hin) rfl))
          have hK9 : Kept [] w w9 := (HK.out.andThen K1.out).trans hk9 (fun i hi => by right; have := (Hb.out i (by simpa using hi)).1; have := Hl2.out; omega)
          have hm3 : m + 1 = J + (q + 1) := by have := Hm.out; omega
          clear hr5 hk9 hm9 HO HK Hb SK K0 K1 R1 c1 c2 rx HA htlt hvlt Hsz Hrd Hnb Hm
          go_wp2
          go_roundw
          case rel => exact ⟨q + 1, m + 1, A5, c5, by omega, hm3, by go_num, rfl, ho9, hA9, Hr9, hK9, Hsz9, Hb9⟩
          case measure => simp [intOf]; omega
        · rw [List.take_of_length_le (by rw [HYl.out]; omega)] at ho
          have Hb3 : Hid (∀ g, (Value.slice A9 m c9).ownBlock = some g → w2.heap.size ≤ g) := Lib.hid (fun g hg => (Hb.out g hg).1)
          have ho' : OwB 5 wr (.slice A9 m c9) (H ++ Y ++ List.replicate (m - (J + 32)) 0) := by rw [show m - (J + 32) = 0 by omega, List.replicate_zero, List.append_nil]; exact ho
          have HTm2 : (T : Int) % (k : Int) = 0 := by have := HTm.out; omega
          have Hk0 : ¬ (k : Int) = 0 := by omega
          have hm4 : J + 32 ≤ m := by omega
          have hm5 : m ≤ T := by omega
          have hT3 : T ≤ 1400 := by omega
          have HTz := Lib.hid HTm2
          clear ho hA Hrd Hb Hl hm HTm2
          go_wp2
          go_loopw [12] (fun v wr => ∃ (j : Nat) (A5 : Option Addr) (c5 : Nat), J + 32 ≤ j ∧ j ≤ T ∧ v = .slice A5 j c5 ∧ OwB 5 wr (.slice A5 j c5) (H ++ Y ++ List.replicate (j - (J + 32)) 0) ∧ Kept [] w wr ∧ Hid (w2.heap.size ≤ wr.heap.size) ∧ Hid (∀ g, (Value.slice A5 j c5).ownBlock = some g → w2.heap.size ≤ g)) (fun v _ => T + 1 - slenH v)
          case atStart => exact ⟨m, A9, c9, hm4, hm5, rfl, ho', hK, Hsz, Hb3⟩
          case round =>
            clear ho' hK Hsz Hb3 hm4 hm5
            obtain ⟨j, A5, c5, hj1, hj2, rfl, ho, hK, Hsz, Hb⟩ := hrel
            have Hl : Hid ((H ++ Y ++ List.replicate (j - (J + 32)) 0).length = j) := Lib.hid (by rw [List.length_append, List.length_append, List.length_replicate, HHl.out, HYl.out]; omega)
            by_cases hlt : j < T
            · have HE : Hid (H ++ Y ++ List.replicate (j - (J + 32)) 0 ++ [0] = H ++ Y ++ List.replicate (j + 1 - (J + 32)) 0) := Lib.hid (by rw [grow0, show j + 1 - (J + 32) = j - (J + 32) + 1 by omega])
              generalize H ++ Y ++ List.replicate (j - (J + 32)) 0 = Z at *
              have hne := HTn.out j hj1 hlt
              have hz : ¬ (j : Int) % (k : Int) = 0 := by omega
              have HO := Lib.hid ho
              have HK := Lib.hid hK
              clear ho hK hne
              go_wp2_with (at_builtin; refine wpList_append_bytes rfl (.tmp 63) (.tmp 64) 22 rfl 5 i0 _ 1 Tryd.underlying22 hi0 hz0 hz1 hz2 rfl (.slice A5 j c5) Z rfl (HO.out.alloc _) _ 1 1 [0] rfl (RdB.one _ 5 0 0 rfl) (by rw [Hl.out]; simp only [maxLen]; omega) (by rw [Hl.out]; omega) ?_)
              intro v8 w8 ho8 hk8 hm8
              obtain ⟨A8, n8, c8, rfl, hr8, _⟩ := ho8.form
              obtain rfl : n8 = j + 1 := by have := hr8.len; rw [List.length_append, Hl.out] at this; exact this.symm
              rw [HE.out] at ho8
              have kq : Kept [] wr (wr.alloc (.cells #[.int .u8 0] 5)) := (Kept.refl [] wr).alloc _
              have hK8 : Kept [] w w8 := (HK.out.andThen kq).trans hk8 (fun i hi => by right; have := Hb.out i (by simpa using hi); have := Hl2.out; omega)
              have Hs8 : Hid (w2.heap.size ≤ w8.heap.size) := Lib.hid (Nat.le_trans Hsz.out (Nat.le_trans kq.size hk8.size))
              have Hb8 : Hid (∀ g, (Value.slice A8 (j + 1) c8).ownBlock = some g → w2.heap.size ≤ g) := Lib.hid (fun g hg => by
                rcases hm8 g hg with h | h
                · exact Hb.out g h
                · exact Nat.le_trans Hsz.out (Nat.le_trans kq.size h))
              clear hr8 hk8 hm8 HO HK HE Hl kq Hsz Hb hz
              go_wp2
              go_roundw
              case rel => exact ⟨j + 1, A8, c8, by omega, by omega, rfl, ho8, hK8, Hs8, Hb8⟩
              case measure => simp [slenH]; omega
            · obtain rfl : T = j := by omega
              rw [HP.out] at ho
              have hz := HTz.out
              have Hb9 : Hid (∀ g, (Value.slice A5 T c5).ownBlock = some g → w.heap.size ≤ g) := Lib.hid (fun g hg => Nat.le_trans Hl2.out.2.2 (Hb.out g hg))
              clear Hb
              go_wp2
              go_ret
              exact ⟨_, rfl, ho, hK, Hb9.out⟩
end Go.Proofs.YtmjeojbdieaakaaDoor
