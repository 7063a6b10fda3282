/-
  The walk of a law of layer 11: any secret is packed as the document says, or refused; what is packed tells the key, and the secret; it stays as it was. No statement of the seed is proved here.
-/
import Derived.Test.YtmjeojbdieaakaaDoorLaw11a
import Derived.Test.YtmjeojbdieaakaaDoorAp10
import Derived.Test.YtmjeojbdieaakaaDoorEq32
import Derived.Test.YtmjeojbdieaakaaDoorPb
namespace Go.Proofs.YtmjeojbdieaakaaDoor
open Go.RowKit
set_option linter.unusedVariables false

theorem packE_ok {k : Int} {n : Nat} (h : packE k n = 0) : n ≤ 1000 ∧ 1 ≤ k ∧ k ≤ 255 := by
  unfold packE at h
  by_cases h1 : 1000 < n
  · rw [if_pos h1] at h; exact absurd h (by decide)
  · rw [if_neg h1] at h
    by_cases h2 : k < 1 ∨ 255 < k
    · rw [if_pos h2] at h; exact absurd h (by decide)
    · omega
theorem packE_le (k : Int) (n : Nat) : 0 ≤ packE k n ∧ packE k n ≤ 14 := by
  unfold packE
  repeat' split
  all_goals omega

set_option maxRecDepth 100000 in
set_option maxHeartbeats 4000000 in
theorem pack11_walk (k : Int) (A : Option Addr) (n c : Nat) (bs : List UInt8) (key : List UInt8) (w : World) (hgl : Glob w) (hk : (Lit.int .i64 k).wf = true) (hr : RdB w A n c bs) (hkl : key.length = 32) :
    Calls Tryd.prog 3 #[.int .i64 k, .slice A n c, .agg (bvs key).toArray] w fun e w' => e = .returned (.bool true) ∧ Kept [] w w' := by
  obtain ⟨i0, hi0, hz0, hz1, hz2⟩ := info_parts u8info
  have hlb := hr.len
  have b1 := hr.cap
  have b2 := hr.most
  unfold maxLen at b2
  have HR := Lib.hid hr
  have Hkl := Lib.hid hkl
  have Hsk := Lib.hid (size_of_len (P := Tryd.prog) (ty := 24) size32 hkl)
  have hA0 := Blk.new w 24 (bvs key)
  have kA : Kept [] w (w.alloc (.cells (bvs key).toArray 24)) := (Kept.refl [] w).alloc _
  obtain ⟨w1, hw1⟩ : ∃ w1, w1 = w.alloc (.cells (bvs key).toArray 24) := ⟨_, rfl⟩
  rw [← hw1] at hA0 kA
  obtain ⟨a, ha⟩ : ∃ a, a = w.heap.size := ⟨_, rfl⟩
  rw [← ha] at hA0
  have W1 := Lib.hid hw1
  have A0 := Lib.hid ha
  have HA := Lib.hid hA0
  have HK1 := Lib.hid kA
  have HGL := Lib.hid (hgl.kept0 kA)
  clear hA0 kA hw1 ha hkl hr hgl hk
  by_cases hbig : 2000 < n
  · go_enter Tryd.func3, Tryd.ntmps3
    go_wp2_with (first
      | (with_reducible change wpList _ _ _ (⟨_, Op.box _ _, _, _, _, _⟩ :: _) _ _; refine Great.wpList_boxTo rfl 24 _ rfl _ rfl a A0.out.symm (bvs key).toArray rfl ?_; rw [← W1.out])
      | (go_at_call 6; refine (wakes11_any _).mono ?_; rintro e w' ⟨rfl, rfl⟩))
    go_ret
    exact ⟨rfl, HK1.out⟩
  · go_enter Tryd.func3, Tryd.ntmps3
    go_wp2_with (first
      | (with_reducible change wpList _ _ _ (⟨_, Op.box _ _, _, _, _, _⟩ :: _) _ _; refine Great.wpList_boxTo rfl 24 _ rfl _ rfl a A0.out.symm (bvs key).toArray rfl ?_; rw [← W1.out])
      | (go_at_call 6; refine (wakes11_any _).mono ?_; rintro e w' ⟨rfl, rfl⟩))
    clear A0 W1
    refine (table_any _).mono ?_
    rintro e w2 ⟨rfl, hk2⟩
    have Hss := Lib.hid (size_of_len (P := Tryd.prog) (ty := 26) size256 sbox_length)
    have Hzs : Hid ((zb 256).length = (bvs sbox).length) := Lib.hid (by rw [zb_length, bvs_length, sbox_length])
    have Hos := Lib.hid (bvs_one sbox)
    go_wp2_with (with_reducible change wpList _ _ _ (⟨_, Op.alloc _, _, _, _, _⟩ :: _) _ _; refine wpList_alloc_blk rfl 26 rfl _ zero256 ?_)
    intro w3 hT3 hk3 hs3
    obtain ⟨t, ht⟩ : ∃ t, t = w2.heap.size := ⟨_, rfl⟩
    rw [← ht] at hT3 hs3 ⊢
    have lt : w2.heap.size ≤ t := by omega
    have HT3 := Lib.hid hT3
    have HK3 := Lib.hid (hk2.andThen hk3)
    have hat : a ≠ t := by have := (HA.out.kept0 hk2).lt; omega
    have lt1 : w1.heap.size ≤ t := by have := hk2.size; omega
    clear ht hT3 hk3 hk2 hs3
    go_wp2_with (with_reducible change wpList _ _ _ (⟨_, Op.store _ _ _, _, _, _, _⟩ :: _) _ _; refine wpList_store_blk rfl 26 (.tmp 7) (.tmp 24) rfl t (bvs sbox) rfl rfl 26 (zb 256) HT3.out Hss.out Hzs.out Hos.out ?_)
    intro w4 hT4 hk4 hs4
    have HK14 : Hid (Kept [] w1 w4) := Lib.hid (HK3.out.trans hk4 (fun i hi => .inr (by have := List.mem_singleton.1 hi; omega)))
    have HT4 := Lib.hid hT4
    have HK4 := Lib.hid (HK1.out.andThen HK14.out)
    clear hT4 hk4 hs4 HT3 HK3
    have HO := Lib.hid (own_empty w4)
    have HA4 : Hid (Kept [] w (w4.alloc (.cells #[] 5))) := Lib.hid (HK4.out.alloc _)
    have HA5 : Hid (Kept [] w4 (w4.alloc (.cells #[] 5))) := Lib.hid ((Kept.refl [] w4).alloc _)
    go_wp2_with (at_builtin; refine wpList_append_bytes rfl (.tmp 25) (.tmp 26) 22 rfl 5 i0 _ 1 Tryd.underlying22 hi0 hz0 hz1 hz2 rfl (.slice (some ⟨w4.heap.size, 0, none⟩) 0 0) [] rfl HO.out A n c bs rfl (HR.out.kept0 HA4.out) (by simp only [maxLen, List.length_nil]; omega) (by simp only [List.length_nil]; omega) ?_)
    intro v5 w5 ho5 hk5 hm5
    obtain ⟨hK5, _⟩ := app_new HA5.out (by intro g hg; simp [Value.ownBlock] at hg; omega) hk5 hm5
    obtain ⟨A5, n5, c5, rfl, hr5, _⟩ := ho5.form
    obtain rfl : n = n5 := by have := hr5.len; omega
    have HK15 := Lib.hid (HK14.out.andThen hK5)
    have HT5 := Lib.hid (HT4.out.kept0 hK5)
    have Hr5 := Lib.hid hr5
    have b3 := hr5.cap
    have b4 := hr5.most
    unfold maxLen at b4
    have HA6 := Lib.hid (HA.out.kept0 HK15.out)
    clear HO HA4 HA5 hk5 hm5 hK5 ho5 hr5 HK14 HT4 HK4
    obtain ⟨E, hE⟩ : ∃ E, packE k n = E := ⟨_, rfl⟩
    have he0 := packE_le k n
    rw [hE] at he0
    obtain ⟨e0, e1⟩ := he0
    have HE := Lib.hid hE
    have Hbb : Hid ((bs == bs) = true) := Lib.hid (by simp)
    have HHl := Lib.hid hlb
    clear hE hlb
    go_wp2_with (with_reducible change wpList _ _ _ (⟨_, Op.load _ (Operand.tmp 5), _, _, _, _⟩ :: _) _ _; refine wpList_load_blk rfl 24 (.tmp 5) rfl a rfl 24 _ _ HA6.out arr32b rfl Hsk.out ?_)
    refine (aPack_any key A5 n c5 k bs _ Hkl.out Hr5.out (HGL.out.kept0 HK15.out)).mono ?_
    rw [HE.out]
    rintro e w6 ⟨A6, n6, c6, rfl, hO6, hk6⟩
    have HA7 := Lib.hid (HA6.out.kept0 hk6)
    have HT6 := Lib.hid (HT5.out.kept0 hk6)
    have HK16 := Lib.hid (HK15.out.andThen hk6)
    have Hr6 := Lib.hid (Hr5.out.kept0 hk6)
    have HL6 := Lib.hid hO6.rdl
    have HR6 := Lib.hid (HR.out.kept0 (HK1.out.andThen HK16.out))
    clear hO6 hk6 HA6 HT5 HK15 Hr5
    go_wp2_with (first
      | (with_reducible change wpList _ _ _ (⟨_, Op.load _ (Operand.tmp 7), _, _, _, _⟩ :: _) _ _; refine wpList_load_blk rfl 26 (.tmp 7) rfl t rfl 26 _ _ HT6.out arr256b rfl Hss.out ?_)
      | (with_reducible change wpList _ _ _ (⟨_, Op.load _ (Operand.tmp 5), _, _, _, _⟩ :: _) _ _; refine wpList_load_blk rfl 24 (.tmp 5) rfl a rfl 24 _ _ HA7.out arr32b rfl Hsk.out ?_))
    refine (rPack_any key A n c k bs _ Hkl.out HR6.out).mono ?_
    rw [HE.out]
    rintro e w7 ⟨A7, n7, c7, rfl, hr7, hk7⟩
    have HL7 := Lib.hid (HL6.out.kept0 hk7)
    have HM7 := Lib.hid hr7
    have HK17 := Lib.hid (HK16.out.andThen hk7)
    have Hr7 := Lib.hid (Hr6.out.kept0 hk7)
    have HR7 := Lib.hid (HR6.out.kept0 hk7)
    have HA8 := Lib.hid (HA7.out.kept0 hk7)
    clear hr7 hk7 HA7 HT6 HK16 Hr6 HL6 HR6
    go_wp2_with fail
    refine (sameAll7_any _ _ _ _ _ _ _ _ HL7.out HM7.out).mono ?_
    rintro e w8 ⟨rfl, m, rfl⟩
    go_wp2_with fail
    refine (same_k A5 A n n c5 c bs bs _ (Hr7.out.drewN m) (HR7.out.drewN m)).mono ?_
    rw [Hbb.out]
    rintro e w9 ⟨rfl, hk9⟩
    have HK79 : Hid (Kept [] w7 w9) := Lib.hid (((Kept.refl [] w7).drewN m).andThen hk9)
    have HK19 := Lib.hid (HK17.out.andThen HK79.out)
    have HL9 := Lib.hid (HL7.out.kept0 HK79.out)
    have HR9 := Lib.hid (HR7.out.kept0 HK79.out)
    have HA9 := Lib.hid (HA8.out.kept0 HK79.out)
    have HG9 := Lib.hid (HGL.out.kept0 HK19.out)
    clear hk9 HL7 HM7 Hr7 HR7 HA8 HK17 HK79
    by_cases hE0 : E = 0
    · subst hE0
      obtain ⟨p1, p2, p3⟩ := packE_ok HE.out
      obtain ⟨q, rfl⟩ : ∃ q : Nat, k = (q : Int) := ⟨k.toNat, by omega⟩
      obtain ⟨C, hC⟩ : ∃ C, clsN n = C := ⟨_, rfl⟩
      have HCv : Hid (clsV (n : Int) = .tuple #[.int .i64 (C : Int), .int .i64 0]) := Lib.hid (by rw [clsV_yes (by omega) (by omega), Int.toNat_natCast, hC])
      have hb := pack_back (k := q) (key := key) (s := bs) (by rw [HHl.out]; exact p1) Hkl.out (by omega) (by omega)
      rw [HHl.out, hC] at hb
      obtain ⟨_, _, hb3, hb4, hb5, hb6⟩ := hb
      have Hb3 := Lib.hid hb3
      have Hb4 := Lib.hid hb4
      have Hb5 := Lib.hid hb5
      have Hb6 := Lib.hid hb6
      generalize packL (q : Int) key bs = ls at *
      have Hzk : Hid ((zb 32).length = (bvs key).length) := Lib.hid (by rw [zb_length, bvs_length, Hkl.out])
      have Hok := Lib.hid (bvs_one key)
      clear hC hb3 hb4 hb5 hb6
      go_wp2_with fail
      refine (aCls_any _ _).mono ?_
      rw [HCv.out]
      rintro e w' ⟨rfl, rfl⟩
      go_wp2_with fail
      refine (aKey_any (C : Int) A6 n6 c6 ls _ HL9.out HG9.out).mono ?_
      rw [Hb3.out, Hb4.out]
      rintro e w10 ⟨rfl, hk10⟩
      have HK10 := Lib.hid (HK19.out.andThen hk10)
      have HL10 := Lib.hid (HL9.out.kept0 hk10)
      have HR10 := Lib.hid (HR9.out.kept0 hk10)
      have HA10 := Lib.hid (HA9.out.kept0 hk10)
      clear hk10 HK19 HL9 HR9 HA9 HG9
      go_wp2_with (with_reducible change wpList _ _ _ (⟨_, Op.alloc _, _, _, _, _⟩ :: _) _ _; refine wpList_alloc_blk rfl 24 rfl _ zero32 ?_)
      intro w11 hG11 hk11 hs11
      obtain ⟨g, hg⟩ : ∃ g, g = w10.heap.size := ⟨_, rfl⟩
      rw [← hg] at hG11 hs11 ⊢
      have lg : w1.heap.size ≤ g := by have := HK10.out.size; omega
      have lg10 : w10.heap.size ≤ g := by omega
      have hag : a ≠ g := by have := HA10.out.lt; omega
      clear hg hs11
      go_wp2_with (with_reducible change wpList _ _ _ (⟨_, Op.store _ _ _, _, _, _, _⟩ :: _) _ _; refine wpList_store_blk rfl 24 (.tmp 15) (.tmp 70) rfl g (bvs key) rfl rfl 24 (zb 32) hG11 Hsk.out Hzk.out Hok.out ?_)
      intro w12 hG12 hk12 hs12
      have HK1012 : Hid (Kept [] w10 w12) := Lib.hid (hk11.trans hk12 (fun i hi => .inr (by have := List.mem_singleton.1 hi; omega)))
      have HK12 := Lib.hid (HK10.out.andThen HK1012.out)
      have HL12 := Lib.hid (HL10.out.kept0 HK1012.out)
      have HR12 := Lib.hid (HR10.out.kept0 HK1012.out)
      have HA12 := Lib.hid (HA10.out.kept0 HK1012.out)
      have HG12 := Lib.hid hG12
      clear hG11 hk11 hk12 hs12 hG12 HK10 HL10 HR10 HA10 HK1012
      go_wp2_with fail
      refine (aUnp_any (C : Int) A6 n6 c6 ls _ HL12.out (HGL.out.kept0 HK12.out)).mono ?_
      rw [Hb5.out, Hb6.out]
      rintro e w13 ⟨v13, rfl, ho13, hk13, _⟩
      obtain ⟨A13, n13, c13, rfl, hr13, _⟩ := ho13.form
      have HK13 := Lib.hid (HK12.out.andThen hk13)
      have Hr13 := Lib.hid hr13
      have HR13 := Lib.hid (HR12.out.kept0 hk13)
      have hA13 := HA12.out.kept0 hk13
      have hG13 := HG12.out.kept0 hk13
      clear ho13 hr13 hk13 HK12 HL12 HR12 HA12 HG12
      have hg := fun W x y => run_eqGuard_agg (P := Tryd.prog) W .eql 24 x y (bvs key).toArray (bvs key).toArray (by kernel_rfl)
      have heq := fun W => run_equalIn_key key Hkl.out W
      go_wp2_with (first
        | (with_reducible change wpList _ _ _ (⟨_, Op.load _ (Operand.tmp 15), _, _, _, _⟩ :: _) _ _; refine wpList_unguard (by first | (simp [Region.wanted, yielded]; done) | (simp [Region.wanted, yielded, Act.put]; done) | rfl) ?_; refine wpList_load_blk rfl 24 (.tmp 15) rfl g rfl 24 _ _ hG13 arr32b rfl Hsk.out ?_)
        | (with_reducible change wpList _ _ _ (⟨_, Op.load _ (Operand.tmp 5), _, _, _, _⟩ :: _) _ _; refine wpList_unguard (by first | (simp [Region.wanted, yielded]; done) | (simp [Region.wanted, yielded, Act.put]; done) | rfl) ?_; refine wpList_load_blk rfl 24 (.tmp 5) rfl a rfl 24 _ _ hA13 arr32b rfl Hsk.out ?_))
      refine (same_k _ _ _ _ _ _ bs bs _ Hr13.out HR13.out).mono ?_
      rw [Hbb.out]
      rintro e w14 ⟨rfl, hk14⟩
      go_wp2
      go_ret
      exact ⟨rfl, (HK1.out.andThen HK13.out).andThen hk14⟩
    · go_wp2
      go_ret
      exact ⟨rfl, HK1.out.andThen HK19.out⟩
end Go.Proofs.YtmjeojbdieaakaaDoor
