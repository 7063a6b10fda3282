/-
  Contract of the document's own answer for layer 6: a text, hidden. No statement of the seed is proved here.
-/
import Derived.Test.YtmjeojbdieaakaaDoorRc1
import Derived.Test.YtmjeojbdieaakaaDoorRa3
import Derived.Test.YtmjeojbdieaakaaDoorCtr2
import Derived.Test.YtmjeojbdieaakaaDoorPb
import Derived.Test.YtmjeojbdieaakaaDoorEq16
namespace Go.Proofs.YtmjeojbdieaakaaDoor
open Go.RowKit
set_option linter.unusedVariables false

set_option maxRecDepth 100000 in
set_option maxHeartbeats 4000000 in
theorem rfast_own (key fr : List UInt8) (A : Option Addr) (n c : Nat) (bs : List UInt8) (w : World) (hkl : key.length = 32) (hfl : fr.length = 16) (hr : RdB w A n c bs) (hn : n ≤ 100000000000) :
    Calls Tryd.prog 38 #[.agg (bvs sbox).toArray, .agg (bvs key).toArray, .agg (bvs fr).toArray, .slice A n c] w fun e w' => ∃ A' c', e = .returned (.slice A' n c') ∧ OwB 5 w' (.slice A' n c') (hide (aesWords key) fr bs) ∧ Kept [] w w' ∧ ∀ g, (Value.slice A' n c').ownBlock = some g → w.heap.size ≤ g := by
  obtain ⟨i0, hi0, hz0, hz1, hz2⟩ := info_parts u8info
  have Hkl := Lib.hid hkl
  have Hfl := Lib.hid hfl
  have HKl := Lib.hid (aesWords_length hkl)
  have Hsk := Lib.hid (size_of_len (P := Tryd.prog) (ty := 24) sizeKey hkl)
  have Hsf := Lib.hid (size_of_len (P := Tryd.prog) (ty := 58) size16 hfl)
  have Hss := Lib.hid (size_of_len (P := Tryd.prog) (ty := 26) size256 sbox_length)
  have HR := Lib.hid hr
  have hcap := hr.cap
  have hmost := hr.most
  unfold maxLen at hmost
  have Hbl := Lib.hid hr.len
  obtain ⟨K, hKeq⟩ : ∃ K, K = aesWords key := ⟨_, rfl⟩
  rw [← hKeq] at HKl ⊢
  have HKeq := Lib.hid hKeq
  clear hKeq
  have hT0 := Blk.new w 26 (bvs sbox)
  have kT : Kept [] w (w.alloc (.cells (bvs sbox).toArray 26)) := (Kept.refl [] w).alloc _
  have sT : (w.alloc (.cells (bvs sbox).toArray 26)).heap.size = w.heap.size + 1 := by simp
  obtain ⟨w1, hw1⟩ : ∃ w1, w1 = w.alloc (.cells (bvs sbox).toArray 26) := ⟨_, rfl⟩
  rw [← hw1] at hT0 kT sT
  have hA0 := Blk.new w1 24 (bvs key)
  have kA : Kept [] w1 (w1.alloc (.cells (bvs key).toArray 24)) := (Kept.refl [] w1).alloc _
  have sA : (w1.alloc (.cells (bvs key).toArray 24)).heap.size = w1.heap.size + 1 := by simp
  obtain ⟨w2, hw2⟩ : ∃ w2, w2 = w1.alloc (.cells (bvs key).toArray 24) := ⟨_, rfl⟩
  rw [← hw2] at hA0 kA sA
  have hF0 := Blk.new w2 58 (bvs fr)
  have kF : Kept [] w2 (w2.alloc (.cells (bvs fr).toArray 58)) := (Kept.refl [] w2).alloc _
  obtain ⟨w3, hw3⟩ : ∃ w3, w3 = w2.alloc (.cells (bvs fr).toArray 58) := ⟨_, rfl⟩
  rw [← hw3] at hF0 kF
  have hT := (hT0.kept0 kA).kept0 kF
  have hA := hA0.kept0 kF
  have hF := hF0
  have hK3 := (kT.andThen kA).andThen kF
  obtain ⟨t, ht⟩ : ∃ t, t = w.heap.size := ⟨_, rfl⟩
  obtain ⟨a, ha⟩ : ∃ a, a = w1.heap.size := ⟨_, rfl⟩
  obtain ⟨f, hf⟩ : ∃ f, f = w2.heap.size := ⟨_, rfl⟩
  rw [← ht] at hT
  rw [← ha] at hA
  rw [← hf] at hF
  have W1 := Lib.hid hw1
  have W2 := Lib.hid hw2
  have W3 := Lib.hid hw3
  have T0 := Lib.hid ht
  have A0 := Lib.hid ha
  have F0 := Lib.hid hf
  clear hT0 kT sT hA0 kA sA hF0 kF hw1 hw2 hw3 ht ha hf hkl hfl hr
  go_enter Tryd.func38, Tryd.ntmps38
  go_wp2_with (first
    | (with_reducible change wpList _ _ _ (⟨_, Op.box _ (Operand.tmp 0), _, _, _, _⟩ :: _) _ _; refine Great.wpList_boxTo rfl 26 _ rfl _ rfl t T0.out.symm (bvs sbox).toArray rfl ?_; rw [← W1.out])
    | (with_reducible change wpList _ _ _ (⟨_, Op.box _ (Operand.tmp 1), _, _, _, _⟩ :: _) _ _; refine Great.wpList_boxTo rfl 24 _ rfl _ rfl a A0.out.symm (bvs key).toArray rfl ?_; rw [← W2.out])
    | (with_reducible change wpList _ _ _ (⟨_, Op.box _ (Operand.tmp 2), _, _, _, _⟩ :: _) _ _; refine Great.wpList_boxTo rfl 58 _ rfl _ rfl f F0.out.symm (bvs fr).toArray rfl ?_; rw [← W3.out])
    | (with_reducible change wpList _ _ _ (⟨_, Op.load _ (Operand.tmp 4), _, _, _, _⟩ :: _) _ _; refine wpList_load_blk rfl 26 (.tmp 4) rfl t rfl 26 _ _ hT arr256b rfl Hss.out ?_)
    | (with_reducible change wpList _ _ _ (⟨_, Op.load _ (Operand.tmp 5), _, _, _, _⟩ :: _) _ _; refine wpList_load_blk rfl 24 (.tmp 5) rfl a rfl 24 _ _ hA arrKey rfl Hsk.out ?_))
  clear T0 A0 F0
  refine (words5_any key _ Hkl.out).mono ?_
  rw [← HKeq.out]
  rintro e w4 ⟨gw, rfl, hW4, hk4⟩
  have hT4 := hT.kept0 hk4
  have hF4 := hF.kept0 hk4
  have hK4 := hK3.andThen hk4
  clear hT hA hF hK3 hk4 W1 W2 W3
  have HB0 := Lib.hid built16
  have HZ1 := Lib.hid zb16_size
  go_wp2_with (first
    | (with_reducible change wpList _ _ _ (⟨_, Op.build _ _, _, _, _, _⟩ :: _) _ _; refine wpList_buildTo rfl 58 _ rfl _ rfl (zb 16).toArray (by simpa [Act.eval, Act.put] using HB0.out) ?_)
    | (with_reducible change wpList _ _ _ (⟨_, Op.alloc _, _, _, _, _⟩ :: _) _ _; refine wpList_alloc_blk rfl 58 rfl _ zero16 ?_))
  intro w5 hV5 hk5 hs5
  refine wpList_store_blk rfl 58 (.tmp 11) (.tmp 16) rfl w4.heap.size (zb 16) rfl rfl 58 (zb 16) hV5 HZ1.out rfl (bvs_one _) ?_
  intro wL hVL hkL hsL
  obtain ⟨v, hv⟩ : ∃ v, v = w4.heap.size := ⟨_, rfl⟩
  have htl := hT4.lt
  have hfl4 := hF4.lt
  have hwl := hW4.lt
  have hs4 := hK4.size
  have hTL := (hT4.kept0 hk5).kept hkL (by simp; omega)
  have hFL := (hF4.kept0 hk5).kept hkL (by simp; omega)
  have hWL := (hW4.kept0 hk5).kept hkL (by simp; omega)
  have hKL0 : Kept [] w wL := (hK4.andThen hk5).trans hkL (by simp; omega)
  rw [← hv] at hVL ⊢
  have lv : w.heap.size ≤ v := by omega
  have n1 : t ≠ v := by omega
  have n2 : f ≠ v := by omega
  have n3 : gw ≠ v := by omega
  have HL4 : Hid (v < wL.heap.size ∧ t < wL.heap.size ∧ f < wL.heap.size ∧ gw < wL.heap.size) := Lib.hid ⟨hVL.lt, hTL.lt, hFL.lt, hWL.lt⟩
  have HLs := Lib.hid hKL0.size
  clear hV5 hk5 hs5 hkL hsL hT4 hF4 hW4 hK4 htl hfl4 hwl hs4 hv HB0
  go_wp2
  go_loopw [12, 10] (fun i o wr => ∃ (k : Nat) (A3 : Option Addr) (c3 : Nat) (X : List UInt8), k ≤ n ∧ i = .int .i64 (k : Int) ∧ o = .slice A3 k c3 ∧ OwB 5 wr (.slice A3 k c3) (hide K fr (bs.take k)) ∧ Hid (X.length = 16) ∧ Hid (k % 16 ≠ 0 → X = aesBlock K (cnt fr (k / 16))) ∧ Blk wr v 58 (bvs X) ∧ Blk wr t 26 (bvs sbox) ∧ Blk wr f 58 (bvs fr) ∧ Blk wr gw 5 (bvs K) ∧ Kept [] w wr ∧ Hid (wL.heap.size ≤ wr.heap.size) ∧ Hid (∀ g, (Value.slice A3 k c3).ownBlock = some g → wL.heap.size ≤ g)) (fun i _ _ => n - (intOf i).toNat)
  case atStart => exact ⟨0, none, 0, List.replicate 16 0, by omega, rfl, rfl, by rw [List.take_zero, hide_eq]; exact OwB.nil _ _, Lib.hid List.length_replicate, Lib.hid (fun h => absurd rfl h), hVL, hTL, hFL, hWL, hKL0, Lib.hid (Nat.le_refl _), Lib.hid (by simp [Value.ownBlock])⟩
  case round =>
    clear hVL hTL hFL hWL hKL0
    obtain ⟨k, A3, c3, X, hk, rfl, rfl, ho, HXl, HX, hV, hT, hF, hW, hK, Hsz0, Hb⟩ := hrel
    by_cases hlt : k < n
    · obtain ⟨b0, o, y, hA', cb, g1, _⟩ := HR.out.byte hlt
      subst hA'
      have Hbw : Hid (b0 < w.heap.size) := Lib.hid (World.block_lt_of_cell? w _ cb)
      obtain ⟨r, hr⟩ : ∃ r : Nat, r = k % 16 := ⟨_, rfl⟩
      obtain ⟨d, hd⟩ : ∃ d : Nat, d = k / 16 := ⟨_, rfl⟩
      have q1 : (k : Int) % 16 = (r : Int) := by omega
      have q2 : (k : Int) / 16 = (d : Int) := by omega
      have q3 : IntKind.i64.wrap ((k : Int) % 16) = (r : Int) := by rw [IntWalk.i64_in _ (by omega)]; omega
      have q4 : IntKind.i64.wrap ((k : Int).tmod 16) = (r : Int) := by rw [Int.tmod_eq_emod_of_nonneg (by omega), q3]
      have q5 : (k : Int).tmod 16 = (r : Int) := by rw [Int.tmod_eq_emod_of_nonneg (by omega), q1]
      have z0 : (0 : Int) ≤ (r : Int) := by omega
      have hr16 : r < 16 := by omega
      have hd2 : d ≤ 100000000000 := by omega
      have Hr : Hid (k % 16 = r) := Lib.hid hr.symm
      have Hd : Hid (k / 16 = d) := Lib.hid hd.symm
      obtain ⟨b, hbb⟩ : ∃ b, b = b0 := ⟨_, rfl⟩
      subst hbb
      have HC : Hid (w.cell? ⟨b, o + k, none⟩ = some (.int .u8 (y.toNat : Int))) := Lib.hid cb
      clear cb hr hd
      by_cases h0 : r = 0
      · have hq : ((r : Int) == 0) = true := by subst h0; rfl
        clear h0
        have HSK := Lib.hid (fun W (h : Kept [] wr W) => And.intro (hT.kept0 h).rangeOf (hF.kept0 h).rangeOf)
        have HSV := Lib.hid (fun W (h : Kept [v] wr W) => And.intro (hT.kept h (by simpa using n1)).rangeOf (hF.kept h (by simpa using n2)).rangeOf)
        have HW0 := Lib.hid (fun W (h : Kept [] wr W) => hW.kept0 h)
        have HV0 := Lib.hid (fun W (h : Kept [] wr W) => hV.kept0 h)
        have HAll := Lib.hid (fun W (h : Kept [v] wr W) => And.intro (hT.kept h (by simpa using n1)) (And.intro (hF.kept h (by simpa using n2)) (And.intro (hW.kept h (by simpa using n3)) (And.intro (hK.trans h (by simp; omega)) (Nat.le_trans Hsz0.out h.size)))))
        have HOO := Lib.hid (fun W (h : Kept [v] wr W) => ho.kept h (fun g hg => by have := Hb.out g hg; have := HL4.out.1; simp; omega))
        clear hV hT hF hW hK Hsz0 ho
        obtain ⟨wz, hwz⟩ : ∃ wz, wz = wr := ⟨_, rfl⟩
        rw [← hwz] at HSK HSV HW0 HV0 HAll HOO
        rw [← hwz]
        clear hwz
        go_wp2
        have hHeld := HSK.out _ (Kept.refl [] wz).drew
        refine wp_region_begin (fun w' => w'.rangeAt t 0 (bvs sbox) ∧ w'.rangeAt f 0 (bvs fr)) (by kernel_rfl) ?_
        refine held_load 0 rfl (by kernel_rfl) (by kernel_rfl) (by kernel_rfl) rfl 26 (.tmp 4) rfl t 0 rfl (bvs sbox) _ (fun w h => h.1) arr256b rfl Hss.out hHeld ?_
        refine held_pure 1 (.slice (some ⟨gw, 0, none⟩) 240 240) rfl (by kernel_rfl) (by kernel_rfl) (by kernel_rfl) rfl (fun w _ => rfl) hHeld ?_
        refine held_load 2 rfl (by kernel_rfl) (by kernel_rfl) (by kernel_rfl) rfl 58 (.tmp 6) rfl f 0 rfl (bvs fr) _ (fun w h => h.2) arr16b rfl Hsf.out hHeld ?_
        refine held_pure 3 (.int .i64 (k : Int)) rfl (by kernel_rfl) (by kernel_rfl) (by kernel_rfl) rfl (fun w _ => rfl) hHeld ?_
        simp only [Act.put, List.setIfInBounds_toArray]
        refine held_one 4 (by kernel_rfl) rfl ?_
        go_wp2
        change _ ∧ wpAnyH _ _ _ _ _ _ _ _ _
        refine ⟨hHeld, ?_⟩
        refine held_one 5 (by kernel_rfl) rfl ?_
        go_wp2
        change _ ∧ wpAnyH _ _ _ _ _ _ _ _ _
        refine ⟨hHeld, ?_⟩
        refine held_one 6 (by kernel_rfl) rfl ?_
        go_wp2_with fail
        refine (rcount_any fr d _ _ Hfl.out (by omega) rfl).mono ?_
        rintro e w6 ⟨rfl, hk6⟩
        have hK6 := (Kept.refl [] wz).drew.andThen hk6
        clear hk6 hHeld
        go_wp2
        change _ ∧ wpAnyH _ _ _ _ _ _ _ _ _
        refine ⟨HSK.out _ hK6, ?_⟩
        refine held_one 7 (by kernel_rfl) rfl ?_
        go_wp2_with fail
        refine (rblock5_any gw K (cnt fr d) _ (HW0.out _ hK6) HKl.out (cnt_length _ _)).mono ?_
        rintro e w7 ⟨rfl, hk7⟩
        have hK7 := hK6.andThen hk7
        have hV7 := HV0.out _ hK7
        clear hk7 hK6
        go_wp2
        change _ ∧ wpAnyH _ _ _ _ _ _ _ _ _
        refine ⟨HSK.out _ hK7, ?_⟩
        refine held_one 8 (by kernel_rfl) rfl ?_
        have HXl2 := Lib.hid (aesBlock_length K (cnt fr d))
        (refine wpList_store_blk rfl 58 (.tmp 11) (.tmp 33) rfl v (bvs (aesBlock K (cnt fr d))) rfl rfl 58 _ hV7 (size_of_len (P := Tryd.prog) (ty := 58) size16 HXl2.out) (by rw [bvs_length, bvs_length, HXl.out, HXl2.out]) (bvs_one _) ?_)
        intro w8 hV8 hk8 hs8
        have hK8 : Kept [v] wz w8 := (hK7.mono (by simp)).trans hk8 (by simp)
        clear hk8 hs8 hV7 hK7 HXl
        go_wp2
        change _ ∧ wpAnyH _ _ _ _ _ _ _ _ _
        refine ⟨HSV.out _ hK8, ?_⟩
        refine held_done (by kernel_rfl) ?_
        have ho := HOO.out _ hK8
        obtain ⟨hT, hF, hW, hK, hsz⟩ := HAll.out _ hK8
        have Hsz := Lib.hid hsz
        have hV := hV8
        obtain ⟨XX, hXX⟩ : ∃ XX, XX = aesBlock K (cnt fr d) := ⟨_, rfl⟩
        rw [← hXX] at hV HXl2 ⊢
        have HXX : Hid (aesBlock K (cnt fr d) = XX) := Lib.hid hXX.symm
        have HXXl := HXl2
        clear hXX HXl2 HSK HSV HW0 HV0 HAll HOO hV8 hK8 HX hsz hq
        have hl : (hide K fr (bs.take k)).length = k := by rw [hide_length, List.length_take, Hbl.out]; omega
        have hst : hide K fr (bs.take k) ++ [y ^^^ XX.getD r 0] = hide K fr (bs.take (k + 1)) := by
          rw [hide_step K fr bs k (by rw [Hbl.out]; exact hlt), ksAt_eq, getD_of_some g1, Hd.out, Hr.out, HXX.out]
        have HX' : Hid ((k + 1) % 16 ≠ 0 → XX = aesBlock K (cnt fr ((k + 1) / 16))) := Lib.hid (fun h => by
          rw [show (k + 1) / 16 = d by have := Hd.out; omega]; exact HXX.out.symm)
        have c2 := (hV.cell r).trans (bvs_at (by have := HXXl.out; omega))
        generalize XX.getD r 0 = z at *
        have c1 : w8.cell? ⟨b, o + k, none⟩ = some (.int .u8 (y.toNat : Int)) := (hK.cell (p := ⟨b, o + k, none⟩) Hbw.out (by simp)).trans HC.out
        have Hst := Lib.hid hst
        have Hl := Lib.hid hl
        have hvlt := hV.lt
        have htlt : b < w8.heap.size := World.block_lt_of_cell? w8 _ c1
        have SK : Hid (∀ W, Kept [] w8 W → W.cell? ⟨b, o + k, none⟩ = some (.int .u8 (y.toNat : Int)) ∧ W.cell? ⟨v, r, none⟩ = some (.int .u8 (z.toNat : Int))) := fun W hk =>
          ⟨(hk.cell (p := ⟨b, o + k, none⟩) htlt (by simp)).trans c1, (hk.cell (p := ⟨v, r, none⟩) hvlt (by simp)).trans c2⟩
        obtain ⟨s8, hs8⟩ : ∃ s8, s8 = y ^^^ z := ⟨_, rfl⟩
        have rx : bits .xor .u8 (y.toNat : Int) (z.toNat : Int) = (s8.toNat : Int) := by rw [bits_xorB, hs8]
        rw [← hs8] at Hst
        have K0 : Hid (Kept [] w8 w8.drew) := (Kept.refl [] w8).drew
        have K1 : Hid (Kept [] w8 (w8.alloc (.cells #[.int .u8 (s8.toNat : Int)] 5)).drew) := ((Kept.refl [] w8).alloc _).drew
        have R1 : Hid (RdB (w8.alloc (.cells #[.int .u8 (s8.toNat : Int)] 5)).drew (some ⟨w8.heap.size, 0, none⟩) 1 1 [s8]) := (RdB.one w8 5 _ s8 rfl).kept0 (Kept.refl [] _).drew
        have hzr : (r : Int) < 16 := by omega
        have hzk : (k : Int) < (n : Int) := by omega
        have HO := Lib.hid ho
        have HK := Lib.hid hK
        have HBL := Lib.hid (And.intro hV (And.intro hT (And.intro hF hW)))
        have HBs : Hid (b < wL.heap.size) := Lib.hid (Nat.lt_of_lt_of_le Hbw.out HLs.out)
        clear hst hl hV hT hF hW ho hK Hd Hr HXX hs8
        go_wp2
        go_region_held3 (fun w' => w'.cell? ⟨b, o + k, none⟩ = some (.int .u8 (y.toNat : Int)) ∧ w'.cell? ⟨v, r, none⟩ = some (.int .u8 (z.toNat : Int)))
          (first
            | exact SK.out _ (Kept.refl [] w8)
            | exact SK.out _ K0.out
            | exact SK.out _ K1.out
            | exact ⟨(hk9.cell (p := ⟨b, o + k, none⟩) (Nat.lt_of_lt_of_le htlt K1.out.size) (fun hm => by have := Hb.out b (by simpa using hm); have := HBs.out; omega)).trans (SK.out _ K1.out).1, (hk9.cell (p := ⟨v, r, none⟩) (Nat.lt_of_lt_of_le hvlt K1.out.size) (fun hm => by have := Hb.out v (by simpa using hm); have := HL4.out.1; omega)).trans (SK.out _ K1.out).2⟩)
          (first
            | (refine step_append_bytes (by rfl) (.tmp 34) (.tmp 44) 22 (by rfl) 5 i0 _ 1 Tryd.underlying22 hi0 hz0 hz1 hz2 (by rfl) _ (hide K fr (bs.take k)) (by rfl) (HO.out.kept0 K1.out) _ 1 1 _ (by rfl) R1.out (by rw [Hl.out]; simp only [maxLen]; omega) (by rw [Hl.out]; omega) ?_; intro v9 w9 ho9 hk9 hm9))
        obtain ⟨A4, n4, c4, rfl, hr4, _⟩ := ho9.form
        rw [Hst.out] at ho9
        obtain rfl : k + 1 = n4 := by have := hr4.len; rw [List.length_append, Hl.out] at this; exact this
        have hs9 : wL.heap.size ≤ w9.heap.size := Nat.le_trans Hsz.out (Nat.le_trans K1.out.size hk9.size)
        have Hsz9 := Lib.hid hs9
        have hb9 : ∀ g, (Value.slice A4 (k + 1) c4).ownBlock = some g → wL.heap.size ≤ g := fun g hg => by
          rcases hm9 g hg with h | h
          · exact Hb.out g h
          · exact Nat.le_trans (Nat.le_trans Hsz.out K1.out.size) h
        have Hb9 := Lib.hid hb9
        have hV9 := (HBL.out.1.kept0 K1.out).kept hk9 (fun hm => by have := Hb.out v (by simpa using hm); have := HL4.out.1; omega)
        have hT9 := (HBL.out.2.1.kept0 K1.out).kept hk9 (fun hm => by have := Hb.out t (by simpa using hm); have := HL4.out.2.1; omega)
        have hF9 := (HBL.out.2.2.1.kept0 K1.out).kept hk9 (fun hm => by have := Hb.out f (by simpa using hm); have := HL4.out.2.2.1; omega)
        have hW9 := (HBL.out.2.2.2.kept0 K1.out).kept hk9 (fun hm => by have := Hb.out gw (by simpa using hm); have := HL4.out.2.2.2; omega)
        have hKw : Kept [] w w9 := (HK.out.andThen K1.out).trans hk9 (fun i hi => by right; have := Hb.out i (by simpa using hi); have := HLs.out; omega)
        clear hr4 hb9 hk9 hm9 hs9 HO HK Hb SK K0 K1 R1 c1 c2 rx HBL HBs htlt hvlt Hsz
        go_wp2
        go_roundw
        case rel => exact ⟨k + 1, A4, c4, XX, by omega, by go_num, rfl, ho9, HXXl, HX', hV9, hT9, hF9, hW9, hKw, Hsz9, Hb9⟩
        case measure => simp [intOf]; omega
      · have hq : ((r : Int) == 0) = false := by simp; omega
        have HXX : Hid (aesBlock K (cnt fr d) = X) := Lib.hid (by have := HX.out (by rw [Hr.out]; exact h0); rw [Hd.out] at this; exact this.symm)
        have HXXl := HXl
        have Hsz := Hsz0
        clear HX HXl Hsz0 h0
        have hl : (hide K fr (bs.take k)).length = k := by rw [hide_length, List.length_take, Hbl.out]; omega
        have hst : hide K fr (bs.take k) ++ [y ^^^ X.getD r 0] = hide K fr (bs.take (k + 1)) := by
          rw [hide_step K fr bs k (by rw [Hbl.out]; exact hlt), ksAt_eq, getD_of_some g1, Hd.out, Hr.out, HXX.out]
        have HX' : Hid ((k + 1) % 16 ≠ 0 → X = aesBlock K (cnt fr ((k + 1) / 16))) := Lib.hid (fun h => by
          rw [show (k + 1) / 16 = d by have := Hd.out; omega]; exact HXX.out.symm)
        have c2 := (hV.cell r).trans (bvs_at (by have := HXXl.out; omega))
        generalize X.getD r 0 = z at *
        have c1 : wr.cell? ⟨b, o + k, none⟩ = some (.int .u8 (y.toNat : Int)) := (hK.cell (p := ⟨b, o + k, none⟩) Hbw.out (by simp)).trans HC.out
        have Hst := Lib.hid hst
        have Hl := Lib.hid hl
        have hvlt := hV.lt
        have htlt : b < wr.heap.size := World.block_lt_of_cell? wr _ c1
        have SK : Hid (∀ W, Kept [] wr W → W.cell? ⟨b, o + k, none⟩ = some (.int .u8 (y.toNat : Int)) ∧ W.cell? ⟨v, r, none⟩ = some (.int .u8 (z.toNat : Int))) := fun W hk =>
          ⟨(hk.cell (p := ⟨b, o + k, none⟩) htlt (by simp)).trans c1, (hk.cell (p := ⟨v, r, none⟩) hvlt (by simp)).trans c2⟩
        obtain ⟨s8, hs8⟩ : ∃ s8, s8 = y ^^^ z := ⟨_, rfl⟩
        have rx : bits .xor .u8 (y.toNat : Int) (z.toNat : Int) = (s8.toNat : Int) := by rw [bits_xorB, hs8]
        rw [← hs8] at Hst
        have K0 : Hid (Kept [] wr wr.drew) := (Kept.refl [] wr).drew
        have K1 : Hid (Kept [] wr (wr.alloc (.cells #[.int .u8 (s8.toNat : Int)] 5)).drew) := ((Kept.refl [] wr).alloc _).drew
        have R1 : Hid (RdB (wr.alloc (.cells #[.int .u8 (s8.toNat : Int)] 5)).drew (some ⟨wr.heap.size, 0, none⟩) 1 1 [s8]) := (RdB.one wr 5 _ s8 rfl).kept0 (Kept.refl [] _).drew
        have hzr : (r : Int) < 16 := by omega
        have hzk : (k : Int) < (n : Int) := by omega
        have HO := Lib.hid ho
        have HK := Lib.hid hK
        have HBL := Lib.hid (And.intro hV (And.intro hT (And.intro hF hW)))
        have HBs : Hid (b < wL.heap.size) := Lib.hid (Nat.lt_of_lt_of_le Hbw.out HLs.out)
        clear hst hl hV hT hF hW ho hK Hd Hr HXX hs8
        go_wp2
        go_region_held3 (fun w' => w'.cell? ⟨b, o + k, none⟩ = some (.int .u8 (y.toNat : Int)) ∧ w'.cell? ⟨v, r, none⟩ = some (.int .u8 (z.toNat : Int)))
          (first
            | exact SK.out _ (Kept.refl [] wr)
            | exact SK.out _ K0.out
            | exact SK.out _ K1.out
            | exact ⟨(hk9.cell (p := ⟨b, o + k, none⟩) (Nat.lt_of_lt_of_le htlt K1.out.size) (fun hm => by have := Hb.out b (by simpa using hm); have := HBs.out; omega)).trans (SK.out _ K1.out).1, (hk9.cell (p := ⟨v, r, none⟩) (Nat.lt_of_lt_of_le hvlt K1.out.size) (fun hm => by have := Hb.out v (by simpa using hm); have := HL4.out.1; omega)).trans (SK.out _ K1.out).2⟩)
          (first
            | (refine step_append_bytes (by rfl) (.tmp 34) (.tmp 44) 22 (by rfl) 5 i0 _ 1 Tryd.underlying22 hi0 hz0 hz1 hz2 (by rfl) _ (hide K fr (bs.take k)) (by rfl) (HO.out.kept0 K1.out) _ 1 1 _ (by rfl) R1.out (by rw [Hl.out]; simp only [maxLen]; omega) (by rw [Hl.out]; omega) ?_; intro v9 w9 ho9 hk9 hm9))
        obtain ⟨A4, n4, c4, rfl, hr4, _⟩ := ho9.form
        rw [Hst.out] at ho9
        obtain rfl : k + 1 = n4 := by have := hr4.len; rw [List.length_append, Hl.out] at this; exact this
        have hs9 : wL.heap.size ≤ w9.heap.size := Nat.le_trans Hsz.out (Nat.le_trans K1.out.size hk9.size)
        have Hsz9 := Lib.hid hs9
        have hb9 : ∀ g, (Value.slice A4 (k + 1) c4).ownBlock = some g → wL.heap.size ≤ g := fun g hg => by
          rcases hm9 g hg with h | h
          · exact Hb.out g h
          · exact Nat.le_trans (Nat.le_trans Hsz.out K1.out.size) h
        have Hb9 := Lib.hid hb9
        have hV9 := (HBL.out.1.kept0 K1.out).kept hk9 (fun hm => by have := Hb.out v (by simpa using hm); have := HL4.out.1; omega)
        have hT9 := (HBL.out.2.1.kept0 K1.out).kept hk9 (fun hm => by have := Hb.out t (by simpa using hm); have := HL4.out.2.1; omega)
        have hF9 := (HBL.out.2.2.1.kept0 K1.out).kept hk9 (fun hm => by have := Hb.out f (by simpa using hm); have := HL4.out.2.2.1; omega)
        have hW9 := (HBL.out.2.2.2.kept0 K1.out).kept hk9 (fun hm => by have := Hb.out gw (by simpa using hm); have := HL4.out.2.2.2; omega)
        have hKw : Kept [] w w9 := (HK.out.andThen K1.out).trans hk9 (fun i hi => by right; have := Hb.out i (by simpa using hi); have := HLs.out; omega)
        clear hr4 hb9 hk9 hm9 hs9 HO HK Hb SK K0 K1 R1 c1 c2 rx HBL HBs htlt hvlt Hsz
        go_wp2
        go_roundw
        case rel => exact ⟨k + 1, A4, c4, X, by omega, by go_num, rfl, ho9, HXXl, HX', hV9, hT9, hF9, hW9, hKw, Hsz9, Hb9⟩
        case measure => simp [intOf]; omega
    · obtain rfl : n = k := by omega
      rw [List.take_of_length_le (by rw [Hbl.out]; exact Nat.le_refl _)] at ho
      have HB2 : Hid (∀ g, (Value.slice A3 n c3).ownBlock = some g → w.heap.size ≤ g) := Lib.hid (fun g hg => Nat.le_trans HLs.out (Hb.out g hg))
      clear hV hT hF hW Hb
      go_wp2
      go_ret
      exact ⟨_, _, rfl, ho, hK, HB2.out⟩
/-- .. as a text to read. -/
theorem rfast_any (key fr : List UInt8) (A : Option Addr) (n c : Nat) (bs : List UInt8) (w : World) (hkl : key.length = 32) (hfl : fr.length = 16) (hr : RdB w A n c bs) (hn : n ≤ 100000000000) :
    Calls Tryd.prog 38 #[.agg (bvs sbox).toArray, .agg (bvs key).toArray, .agg (bvs fr).toArray, .slice A n c] w fun e w' => ∃ A' c', e = .returned (.slice A' n c') ∧ RdB w' A' n c' (hide (aesWords key) fr bs) ∧ Kept [] w w' := by
  refine (rfast_own key fr A n c bs w hkl hfl hr hn).mono ?_
  rintro e w' ⟨A', c', h1, h2, h3, _⟩
  exact ⟨A', c', h1, h2.rd, h3⟩
end Go.Proofs.YtmjeojbdieaakaaDoor
