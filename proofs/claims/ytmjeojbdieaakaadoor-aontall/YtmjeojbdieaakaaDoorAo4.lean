/-
  Contract of layer 11, the document's own: a secret, packed in slices. No statement of the seed is proved here.
-/
import Derived.Test.YtmjeojbdieaakaaDoorAo2
import Derived.Test.YtmjeojbdieaakaaDoorAo3
namespace Go.Proofs.YtmjeojbdieaakaaDoor
open Go.RowKit
set_option linter.unusedVariables false

/-- A secret's slices, and the error. -/
@[irreducible] def packL (k : Int) (key s : List UInt8) : List (List UInt8) :=
  if s.length ≤ 1000 ∧ 1 ≤ k ∧ k ≤ 255 then cutL k.toNat (sizN (clsN s.length) k.toNat) (pkgL k.toNat key s) else []
@[irreducible] def packE (k : Int) (m : Nat) : Int := if 1000 < m then 3 else if k < 1 ∨ 255 < k then 14 else 0
/-- Texts of the call's own, and an error. -/
def PackRet (ls : List (List UInt8)) (x : Int) (w : World) (e : Ending) (w' : World) : Prop := ∃ A n c, e = .returned (.tuple #[.slice A n c, .int .i64 x]) ∧ RdL w' A n c ls ∧ Kept [] w w'

set_option maxRecDepth 100000 in
set_option maxHeartbeats 4000000 in
theorem rPack_any (key : List UInt8) (A : Option Addr) (n c : Nat) (k : Int) (bs : List UInt8) (w : World) (hkl : key.length = 32) (hr : RdB w A n c bs) :
    Calls Tryd.prog 9 #[.agg (bvs sbox).toArray, .int .i64 k, .slice A n c, .agg (bvs key).toArray] w (PackRet (packL k key bs) (packE k n) w) := by
  have hlb := hr.len
  have HR := Lib.hid hr
  have Hkl := Lib.hid hkl
  have b1 := hr.cap
  have b2 := hr.most
  unfold maxLen at b2
  have Hsk := Lib.hid (size_of_len (P := Tryd.prog) (ty := 24) sizeKey hkl)
  have Hss := Lib.hid (size_of_len (P := Tryd.prog) (ty := 26) size256 sbox_length)
  have hT0 := Blk.new w 26 (bvs sbox)
  have kT : Kept [] w (w.alloc (.cells (bvs sbox).toArray 26)) := (Kept.refl [] w).alloc _
  obtain ⟨w1, hw1⟩ : ∃ w1, w1 = w.alloc (.cells (bvs sbox).toArray 26) := ⟨_, rfl⟩
  rw [← hw1] at hT0 kT
  have hA0 := Blk.new w1 24 (bvs key)
  have kA : Kept [] w1 (w1.alloc (.cells (bvs key).toArray 24)) := (Kept.refl [] w1).alloc _
  obtain ⟨w2, hw2⟩ : ∃ w2, w2 = w1.alloc (.cells (bvs key).toArray 24) := ⟨_, rfl⟩
  rw [← hw2] at hA0 kA
  have hT := hT0.kept0 kA
  have hA := hA0
  have hK2 := kT.andThen kA
  obtain ⟨t, ht⟩ : ∃ t, t = w.heap.size := ⟨_, rfl⟩
  obtain ⟨a, ha⟩ : ∃ a, a = w1.heap.size := ⟨_, rfl⟩
  rw [← ht] at hT
  rw [← ha] at hA
  have W1 := Lib.hid hw1
  have W2 := Lib.hid hw2
  have T0 := Lib.hid ht
  have A0 := Lib.hid ha
  have HT := Lib.hid hT
  have HA := Lib.hid hA
  have HK2 := Lib.hid hK2
  clear hT0 kT hA0 kA hw1 hw2 ht ha hkl hr hT hA hK2
  by_cases hbig : 1000 < n
  · have HE : Hid (packE k n = 3) := Lib.hid (by unfold packE; rw [if_pos hbig])
    have HL : Hid (packL k key bs = []) := Lib.hid (by unfold packL; rw [if_neg (by omega)])
    have HCv : Hid (clsV (n : Int) = .tuple #[.int .i64 0, .int .i64 3]) := Lib.hid (clsV_no (.inr (by omega)))
    rw [HE.out, HL.out]
    go_enter Tryd.func9, Tryd.ntmps9
    go_wp2_with (first
      | (with_reducible change wpList _ _ _ (⟨_, Op.box _ (Operand.tmp 0), _, _, _, _⟩ :: _) _ _; refine Great.wpList_boxTo rfl 26 _ rfl _ rfl t T0.out.symm (bvs sbox).toArray rfl ?_; rw [← W1.out])
      | (with_reducible change wpList _ _ _ (⟨_, Op.box _ (Operand.tmp 3), _, _, _, _⟩ :: _) _ _; refine Great.wpList_boxTo rfl 24 _ rfl _ rfl a A0.out.symm (bvs key).toArray rfl ?_; rw [← W2.out])
      | (go_at_call 29; refine (rCls_any _ _).mono ?_; rw [HCv.out]; rintro e w' ⟨rfl, rfl⟩))
    go_ret2
    exact ⟨none, 0, 0, rfl, RdL.nil _, HK2.out⟩
  · obtain ⟨C, hC⟩ : ∃ C, clsN n = C := ⟨_, rfl⟩
    have HCv : Hid (clsV (n : Int) = .tuple #[.int .i64 (C : Int), .int .i64 0]) := Lib.hid (by rw [clsV_yes (by omega) (by omega), Int.toNat_natCast, hC])
    have HCi : Hid (isCls (C : Int) = true) := Lib.hid (by rw [← hC]; exact clsN_isCls n)
    by_cases hk : k < 1 ∨ 255 < k
    · have HE : Hid (packE k n = 14) := Lib.hid (by unfold packE; rw [if_neg hbig, if_pos hk])
      have HL : Hid (packL k key bs = []) := Lib.hid (by unfold packL; rw [if_neg (by omega)])
      have HSv : Hid (sizV (C : Int) k = .tuple #[.int .i64 0, .int .i64 14]) := Lib.hid (sizV_no (by omega))
      have Hk := Lib.hid hk
      rw [HE.out, HL.out]
      clear hk hC
      go_enter Tryd.func9, Tryd.ntmps9
      go_wp2_with (first
        | (with_reducible change wpList _ _ _ (⟨_, Op.box _ (Operand.tmp 0), _, _, _, _⟩ :: _) _ _; refine Great.wpList_boxTo rfl 26 _ rfl _ rfl t T0.out.symm (bvs sbox).toArray rfl ?_; rw [← W1.out])
        | (with_reducible change wpList _ _ _ (⟨_, Op.box _ (Operand.tmp 3), _, _, _, _⟩ :: _) _ _; refine Great.wpList_boxTo rfl 24 _ rfl _ rfl a A0.out.symm (bvs key).toArray rfl ?_; rw [← W2.out])
        | (go_at_call 29; refine (rCls_any _ _).mono ?_; rw [HCv.out]; rintro e w' ⟨rfl, rfl⟩)
        | (go_at_call 30; refine (rSiz_few (C : Int) k HCi.out Hk.out _).mono ?_; rw [HSv.out]; rintro e w' ⟨rfl, rfl⟩))
      go_ret2
      exact ⟨none, 0, 0, rfl, RdL.nil _, HK2.out⟩
    · obtain ⟨q, rfl⟩ : ∃ q : Nat, k = (q : Int) := ⟨k.toNat, by omega⟩
      have hq1 : 1 ≤ q := by omega
      have hq2 : q ≤ 255 := by omega
      obtain ⟨S, hS⟩ : ∃ S, sizN C q = S := ⟨_, rfl⟩
      have hC2 : C ≤ 1024 := by rw [← hC]; exact clsN_le n
      have hS2 : S ≤ 2000 := by
        have h1 := (sizN_mul (c := C) hq1).2
        rw [hS] at h1
        have h2 : S ≤ q * S := Nat.le_mul_of_pos_left S (by omega)
        omega
      have HE : Hid (packE (q : Int) n = 0) := Lib.hid (by unfold packE; rw [if_neg hbig, if_neg hk])
      have HL : Hid (packL (q : Int) key bs = cutL q S (pkgL q key bs)) := Lib.hid (by unfold packL; rw [if_pos (by omega), Int.toNat_natCast, hlb, hC, hS])
      have HSv : Hid (sizV (C : Int) (q : Int) = .tuple #[.int .i64 (S : Int), .int .i64 0]) := Lib.hid (by rw [sizV_yes HCi.out (by omega) (by omega), Int.toNat_natCast, Int.toNat_natCast, hS])
      have HPl : Hid ((pkgL q key bs).length = q * S) := Lib.hid (by rw [pkgL_length hq1 Hkl.out (by omega), hlb, hC, hS])
      rw [HE.out, HL.out]
      clear hk hC hS
      go_enter Tryd.func9, Tryd.ntmps9
      go_wp2_with (first
        | (with_reducible change wpList _ _ _ (⟨_, Op.box _ (Operand.tmp 0), _, _, _, _⟩ :: _) _ _; refine Great.wpList_boxTo rfl 26 _ rfl _ rfl t T0.out.symm (bvs sbox).toArray rfl ?_; rw [← W1.out])
        | (with_reducible change wpList _ _ _ (⟨_, Op.box _ (Operand.tmp 3), _, _, _, _⟩ :: _) _ _; refine Great.wpList_boxTo rfl 24 _ rfl _ rfl a A0.out.symm (bvs key).toArray rfl ?_; rw [← W2.out])
        | (with_reducible change wpList _ _ _ (⟨_, Op.load _ (Operand.tmp 4), _, _, _, _⟩ :: _) _ _; refine wpList_load_blk rfl 26 (.tmp 4) rfl t rfl 26 _ _ HT.out arr256b rfl Hss.out ?_)
        | (with_reducible change wpList _ _ _ (⟨_, Op.load _ (Operand.tmp 7), _, _, _, _⟩ :: _) _ _; refine wpList_load_blk rfl 24 (.tmp 7) rfl a rfl 24 _ _ HA.out arrKey rfl Hsk.out ?_)
        | (go_at_call 29; refine (rCls_any _ _).mono ?_; rw [HCv.out]; rintro e w' ⟨rfl, rfl⟩)
        | (go_at_call 30; refine (rSiz_yes C q HCi.out hq1 hq2 _).mono ?_; rw [HSv.out]; rintro e w' ⟨rfl, rfl⟩))
      refine (rWhole_any key A n c q bs _ Hkl.out (HR.out.kept0 HK2.out) (by omega) hq1 hq2).mono ?_
      rintro e w3 ⟨v3, rfl, ho3, hk3, hb3⟩
      obtain ⟨A3, n3, c3, rfl, hr3, _⟩ := ho3.form
      have Hn3 : Hid (n3 = q * S) := Lib.hid (by have := hr3.len; rw [HPl.out] at this; exact this.symm)
      have HR3 := Lib.hid hr3
      have HK3 := Lib.hid hk3
      clear ho3 hr3 hk3 hb3
      go_wp2_with (go_at_call 31; refine (rCut_any A3 n3 c3 (pkgL q key bs) q S _ HR3.out hq1 hq2 hS2 Hn3.out).mono ?_; rintro e w4 ⟨A4, n4, c4, rfl, hr4, hk4⟩)
      go_ret2
      exact ⟨A4, n4, c4, rfl, hr4, (HK2.out.andThen HK3.out).andThen hk4⟩
end Go.Proofs.YtmjeojbdieaakaaDoor
