/-
  The walk of a law of layer 6: what is turned of a text is turned of what hides it, byte by byte. No statement of the seed is proved here.
-/
import Derived.Test.YtblcamkdkjobbaaLaw6a
import Derived.Test.YtblcamkdkjobbaaPures
import Derived.Test.YtblcamkdkjobbaaMemStep
import Derived.Test.YtblcamkdkjobbaaMemV
import Derived.Deep.RegionHeld3
namespace Go.Proofs.Ytblcamkdkjobbaa
open Go.RowKit
set_option linter.unusedVariables false

/-- Both, byte by byte. -/
@[irreducible] def bth (a b : List UInt8) (n : Nat) : List UInt8 := tab n (fun j => a.getD j 0 ^^^ b.getD j 0)
theorem bth_zero (a b : List UInt8) : bth a b 0 = [] := by unfold bth; rfl
theorem bth_succ (a b : List UInt8) (n : Nat) : bth a b (n + 1) = bth a b n ++ [a.getD n 0 ^^^ b.getD n 0] := by unfold bth; simp [tab, List.range_succ]
theorem bth_length (a b : List UInt8) (n : Nat) : (bth a b n).length = n := by unfold bth; exact tab_length _ _
theorem bth_hide (w f a b : List UInt8) (h : b.length = a.length) {i : Nat} (hi : i < a.length) : (hide w f a).getD i 0 ^^^ b.getD i 0 = (hide w f (bth a b a.length)).getD i 0 := by
  rw [hide_xor w f a b h hi]; unfold bth; rfl

set_option maxRecDepth 100000 in
set_option maxHeartbeats 2000000 in
theorem xor_walk (key : List UInt8) (A : Option Addr) (n c : Nat) (xs : List UInt8) (A' : Option Addr) (n' c' : Nat) (ys : List UInt8) (w : World) (hkl : key.length = 32) (ha : RdB w A n c xs) (hb : RdB w A' n' c' ys) :
    Calls Try.prog 6 #[.agg (bvs key).toArray, .slice A n c, .slice A' n' c'] w fun e w' => e = .returned (.bool true) ∧ Kept [] w w' := by
  obtain ⟨i0, hi0, hz0, hz1, hz2⟩ := info_parts u8info
  have hca := ha.cap
  have hma := ha.most
  have hcb := hb.cap
  have hmb := hb.most
  unfold maxLen at hma hmb
  have HAl := Lib.hid ha.len
  have HBl := Lib.hid hb.len
  have HA := Lib.hid ha
  have HB := Lib.hid hb
  have Hkl := Lib.hid hkl
  have Hsk := Lib.hid (size_of_len (P := Try.prog) (ty := 23) sizeKey hkl)
  have hB0 := Blk.new w 23 (bvs key)
  have kB : Kept [] w (w.alloc (.cells (bvs key).toArray 23)) := (Kept.refl [] w).alloc _
  obtain ⟨g, hg⟩ : ∃ g, g = w.heap.size := ⟨_, rfl⟩
  rw [← hg] at hB0
  have G0 := Lib.hid hg
  clear hkl hg ha hb
  by_cases hn : 300 < n
  · go_enter Try.func6, Try.ntmps6
    go_wp2_with (with_reducible change wpList _ _ _ (⟨_, Op.box _ _, _, _, _, _⟩ :: _) _ _; refine Great.wpList_boxTo rfl 23 _ rfl _ rfl g G0.out.symm (bvs key).toArray rfl ?_; generalize w.alloc (.cells (bvs key).toArray 23) = w1 at *)
    refine (wakes6_any _).mono ?_
    rintro e w2 ⟨rfl, hk2⟩
    go_wp2
    go_ret
    exact ⟨rfl, kB.andThen hk2⟩
  · by_cases hm : n' = n
    · subst hm
      go_enter Try.func6, Try.ntmps6
      go_wp2_with (with_reducible change wpList _ _ _ (⟨_, Op.box _ _, _, _, _, _⟩ :: _) _ _; refine Great.wpList_boxTo rfl 23 _ rfl _ rfl g G0.out.symm (bvs key).toArray rfl ?_; generalize w.alloc (.cells (bvs key).toArray 23) = w1 at *)
      refine (wakes6_any _).mono ?_
      rintro e w2 ⟨rfl, hk2⟩
      have hB2 := hB0.kept0 hk2
      have hK2 := kB.andThen hk2
      have HLs := Lib.hid hK2.size
      have HgL := Lib.hid hB2.lt
      clear hB0 kB hk2 G0
      go_wp2
      go_loopw [26, 7] (fun i o wr => ∃ (k : Nat) (A3 : Option Addr) (c3 : Nat), k ≤ n' ∧ i = .int .i64 (k : Int) ∧ o = .slice A3 k c3 ∧ OwB 5 wr (.slice A3 k c3) (bth xs ys k) ∧ Blk wr g 23 (bvs key) ∧ Kept [] w wr ∧ Hid (w2.heap.size ≤ wr.heap.size) ∧ Hid (∀ g, (Value.slice A3 k c3).ownBlock = some g → w2.heap.size ≤ g)) (fun i _ _ => n' - (intOf i).toNat)
      case atStart => exact ⟨0, none, 0, by omega, rfl, rfl, by rw [bth_zero]; exact OwB.nil _ _, hB2, hK2, Lib.hid (Nat.le_refl _), Lib.hid (by simp [Value.ownBlock])⟩
      case round =>
        clear hB2 hK2
        obtain ⟨k, A3, c3, hk, rfl, rfl, ho, hB, hK, Hsz, Hb⟩ := hrel
        by_cases hlt : k < n'
        · obtain ⟨ba, oa, y, hA', ca, ga, _⟩ := HA.out.byte hlt
          obtain ⟨bb, ob, z, hB', cb, gb, _⟩ := HB.out.byte hlt
          subst hA' hB'
          have Hba : Hid (ba < w.heap.size) := Lib.hid (World.block_lt_of_cell? w _ ca)
          have Hbb : Hid (bb < w.heap.size) := Lib.hid (World.block_lt_of_cell? w _ cb)
          have c1 := (hK.cell (p := ⟨ba, oa + k, none⟩) Hba.out (by simp)).trans ca
          have c2 := (hK.cell (p := ⟨bb, ob + k, none⟩) Hbb.out (by simp)).trans cb
          have hst := bth_succ xs ys k
          rw [getD_of_some ga, getD_of_some gb] at hst
          obtain ⟨s8, hs8⟩ : ∃ s8, s8 = y ^^^ z := ⟨_, rfl⟩
          have rx : bits .xor .u8 (y.toNat : Int) (z.toNat : Int) = (s8.toNat : Int) := by rw [bits_xorB, hs8]
          rw [← hs8] at hst
          have Hst := Lib.hid hst
          have Hl := Lib.hid (bth_length xs ys k)
          have l1 : ba < wr.heap.size := World.block_lt_of_cell? wr _ c1
          have l2 : bb < wr.heap.size := World.block_lt_of_cell? wr _ c2
          have SK : Hid (∀ W, Kept [] wr W → W.cell? ⟨ba, oa + k, none⟩ = some (.int .u8 (y.toNat : Int)) ∧ W.cell? ⟨bb, ob + k, none⟩ = some (.int .u8 (z.toNat : Int))) := fun W hk =>
            ⟨(hk.cell (p := ⟨ba, oa + k, none⟩) l1 (by simp)).trans c1, (hk.cell (p := ⟨bb, ob + k, none⟩) l2 (by simp)).trans c2⟩
          have K0 : Hid (Kept [] wr wr.drew) := (Kept.refl [] wr).drew
          have K1 : Hid (Kept [] wr (wr.alloc (.cells #[.int .u8 (s8.toNat : Int)] 5)).drew) := ((Kept.refl [] wr).alloc _).drew
          have R1 : Hid (RdB (wr.alloc (.cells #[.int .u8 (s8.toNat : Int)] 5)).drew (some ⟨wr.heap.size, 0, none⟩) 1 1 [s8]) := (RdB.one wr 5 _ s8 rfl).kept0 (Kept.refl [] _).drew
          have hzk : (k : Int) < (n' : Int) := by omega
          have HO := Lib.hid ho
          have HK := Lib.hid hK
          have HBL := Lib.hid hB
          clear hst hs8 ho hK hB ca cb ga gb
          go_wp2
          go_region_held3 (fun w' => w'.cell? ⟨ba, oa + k, none⟩ = some (.int .u8 (y.toNat : Int)) ∧ w'.cell? ⟨bb, ob + k, none⟩ = some (.int .u8 (z.toNat : Int)))
            (first
              | exact SK.out _ (Kept.refl [] wr)
              | exact SK.out _ K0.out
              | exact SK.out _ K1.out
              | exact ⟨(hk9.cell (p := ⟨ba, oa + k, none⟩) (Nat.lt_of_lt_of_le l1 K1.out.size) (fun hm => by have := Hb.out ba (by simpa using hm); have := Hba.out; have := HLs.out; omega)).trans (SK.out _ K1.out).1, (hk9.cell (p := ⟨bb, ob + k, none⟩) (Nat.lt_of_lt_of_le l2 K1.out.size) (fun hm => by have := Hb.out bb (by simpa using hm); have := Hbb.out; have := HLs.out; omega)).trans (SK.out _ K1.out).2⟩)
            (first
              | (refine step_append_bytes (by rfl) (.tmp 29) (.tmp 39) 25 (by rfl) 5 i0 _ 1 Try.underlying25 hi0 hz0 hz1 hz2 (by rfl) _ (bth xs ys k) (by rfl) (HO.out.kept0 K1.out) _ 1 1 _ (by rfl) R1.out (by rw [Hl.out]; simp only [maxLen]; omega) (by rw [Hl.out]; omega) ?_; intro v9 w9 ho9 hk9 hm9))
          obtain ⟨A4, n4, c4, rfl, hr4, _⟩ := ho9.form
          rw [← Hst.out] at ho9
          obtain rfl : k + 1 = n4 := by have := hr4.len; rw [List.length_append, Hl.out] at this; exact this
          have Hsz9 : Hid (w2.heap.size ≤ w9.heap.size) := Lib.hid (Nat.le_trans Hsz.out (Nat.le_trans K1.out.size hk9.size))
          have Hb9 : Hid (∀ g, (Value.slice A4 (k + 1) c4).ownBlock = some g → w2.heap.size ≤ g) := Lib.hid (fun g hg => by
            rcases hm9 g hg with h | h
            · exact Hb.out g h
            · exact Nat.le_trans (Nat.le_trans Hsz.out K1.out.size) h)
          have hB9 := (HBL.out.kept0 K1.out).kept hk9 (fun hm => by have := Hb.out g (by simpa using hm); have := HgL.out; omega)
          have hK9 : Kept [] w w9 := (HK.out.andThen K1.out).trans hk9 (fun i hi => by right; have := Hb.out i (by simpa using hi); have := HLs.out; omega)
          clear hr4 hk9 hm9 HO HK Hb SK K0 K1 R1 c1 c2 rx HBL l1 l2 Hsz
          go_wp2
          go_roundw
          case rel => exact ⟨k + 1, A4, c4, by omega, by go_num, rfl, ho9, hB9, hK9, Hsz9, Hb9⟩
          case measure => simp [intOf]; omega
        · obtain rfl : n' = k := by omega
          have hrd := ho.rd
          have HRd := Lib.hid (fun W (h : Kept [] wr W) => hrd.kept0 h)
          have SK := Lib.hid (fun W (h : Kept [] wr W) => (hB.kept0 h).rangeOf)
          have HK := Lib.hid hK
          clear hB ho hrd Hb hK
          go_wp2
          have hHeld := SK.out _ (Kept.refl [] wr).drew
          refine wp_region_begin (fun w' => w'.rangeAt g 0 (bvs key)) (by kernel_rfl) ?_
          refine held_loadD 0 42 rfl rfl (by kernel_rfl) (by kernel_rfl) (by kernel_rfl) rfl 23 (.tmp 3) rfl g 0 rfl (bvs key) _ (fun w h => h) arrKey rfl Hsk.out hHeld ?_
          simp only [Act.put, List.setIfInBounds_toArray, List.set_cons_succ, List.set_cons_zero]
          refine held_pureD 1 43 (.agg (zb 16).toArray) rfl rfl (by kernel_rfl) (by kernel_rfl) (by kernel_rfl) rfl (fun w _ => by kernel_rfl) hHeld ?_
          simp only [Act.put, List.setIfInBounds_toArray, List.set_cons_succ, List.set_cons_zero]
          refine held_pureD 2 44 (.slice A n' c) rfl rfl (by kernel_rfl) (by kernel_rfl) (by kernel_rfl) rfl (fun w _ => rfl) hHeld ?_
          simp only [Act.put, List.setIfInBounds_toArray, List.set_cons_succ, List.set_cons_zero]
          refine held_loadD 4 46 rfl rfl (by kernel_rfl) (by kernel_rfl) (by kernel_rfl) rfl 23 (.tmp 3) rfl g 0 rfl (bvs key) _ (fun w h => h) arrKey rfl Hsk.out hHeld ?_
          simp only [Act.put, List.setIfInBounds_toArray, List.set_cons_succ, List.set_cons_zero]
          refine held_pureD 5 47 (.agg (zb 16).toArray) rfl rfl (by kernel_rfl) (by kernel_rfl) (by kernel_rfl) rfl (fun w _ => by kernel_rfl) hHeld ?_
          simp only [Act.put, List.setIfInBounds_toArray, List.set_cons_succ, List.set_cons_zero]
          refine held_pureD 6 48 (.slice A3 n' c3) rfl rfl (by kernel_rfl) (by kernel_rfl) (by kernel_rfl) rfl (fun w _ => rfl) hHeld ?_
          simp only [Act.put, List.setIfInBounds_toArray, List.set_cons_succ, List.set_cons_zero]
          refine held_one 3 (by kernel_rfl) rfl ?_
          go_wp2_with fail
          refine (hide_any key (List.replicate 16 0) A n' c xs _ Hkl.out List.length_replicate (HA.out.kept0 (HK.out.andThen (Kept.refl [] wr).drew)) (by omega)).mono ?_
          rintro e w5 ⟨g1, rfl, hH5, _, hk5⟩
          have hK5 := (Kept.refl [] wr).drew.andThen hk5
          clear hk5 hHeld
          go_wp2
          change _ ∧ wpAnyH _ _ _ _ _ _ _ _ _
          refine ⟨SK.out _ hK5, ?_⟩
          refine held_one 7 (by kernel_rfl) rfl ?_
          go_wp2_with fail
          refine (hide_any key (List.replicate 16 0) A3 n' c3 (bth xs ys n') _ Hkl.out List.length_replicate (HRd.out _ hK5) (by omega)).mono ?_
          rintro e w6 ⟨g2, rfl, hG6, _, hk6⟩
          have hK6 := hK5.andThen hk6
          have hH6 := hH5.kept0 hk6
          clear hk6 hK5 hH5
          go_wp2
          change _ ∧ wpAnyH _ _ _ _ _ _ _ _ _
          have hHeld := SK.out _ hK6
          refine ⟨hHeld, ?_⟩
          refine held_pureD 8 9 (.slice (some ⟨g1, 0, none⟩) n' n') rfl rfl (by kernel_rfl) (by kernel_rfl) (by kernel_rfl) rfl (fun w _ => rfl) hHeld ?_
          simp only [Act.put, List.setIfInBounds_toArray, List.set_cons_succ, List.set_cons_zero]
          refine held_pureD 9 10 (.slice (some ⟨g2, 0, none⟩) n' n') rfl rfl (by kernel_rfl) (by kernel_rfl) (by kernel_rfl) rfl (fun w _ => rfl) hHeld ?_
          simp only [Act.put, List.setIfInBounds_toArray, List.set_cons_succ, List.set_cons_zero]
          refine held_done (by kernel_rfl) ?_
          have hKw := HK.out.andThen hK6
          have HBw := Lib.hid (HB.out.kept0 hKw)
          have HX : Hid (∀ i, i < n' → (hide (aesWords key) (List.replicate 16 0) xs).getD i 0 ^^^ ys.getD i 0 = (hide (aesWords key) (List.replicate 16 0) (bth xs ys n')).getD i 0) := Lib.hid (fun i hi => by
            have h := bth_hide (aesWords key) (List.replicate 16 0) xs ys (by rw [HAl.out, HBl.out]) (i := i) (by rw [HAl.out]; exact hi)
            rw [HAl.out] at h; exact h)
          have HHl : Hid ((hide (aesWords key) (List.replicate 16 0) xs).length = n') := Lib.hid (by rw [hide_length, HAl.out])
          have HGl : Hid ((hide (aesWords key) (List.replicate 16 0) (bth xs ys n')).length = n') := Lib.hid (by rw [hide_length, bth_length])
          generalize hide (aesWords key) (List.replicate 16 0) xs = T1 at *
          generalize hide (aesWords key) (List.replicate 16 0) (bth xs ys n') = T2 at *
          have HH6 := Lib.hid hH6
          have HG6 := Lib.hid hG6
          have HKw := Lib.hid hKw
          clear hH6 hG6 hKw hK6 hHeld SK HRd HK Hsz
          go_wp2
          go_loopw [52] (fun i wq => ∃ (k m : Nat), k ≤ n' ∧ i = .int .i64 (k : Int) ∧ wq = w6.drewN m) (fun i _ => n' - (intOf i).toNat)
          case atStart => exact ⟨0, 0, by omega, rfl, rfl⟩
          case round =>
            obtain ⟨k, m, hk, rfl, rfl⟩ := hrel
            by_cases hlt : k < n'
            · obtain ⟨bb, ob, z, hB', cb, gb, _⟩ := HBw.out.byte hlt
              subst hB'
              have c1 := (HH6.out.cell k).trans (bvs_at (by rw [HHl.out]; exact hlt))
              have c2 := (HG6.out.cell k).trans (bvs_at (by rw [HGl.out]; exact hlt))
              have hx := HX.out k hlt
              rw [getD_of_some gb] at hx
              rw [← hx] at c2
              generalize T1.getD k 0 = y at *
              obtain ⟨s8, hs8⟩ : ∃ s8, s8 = y ^^^ z := ⟨_, rfl⟩
              have rx : bits .xor .u8 (y.toNat : Int) (z.toNat : Int) = (s8.toNat : Int) := by rw [bits_xorB, hs8]
              rw [← hs8] at c2
              have hzk : (k : Int) < (n' : Int) := by omega
              clear hx hs8 gb
              go_wp2
              go_quiet (fail)
              go_wp2
              go_roundw
              case rel => exact ⟨k + 1, m + nq, by omega, by go_num, rfl⟩
              case measure => simp [intOf]; omega
            · obtain rfl : n' = k := by omega
              have hKf := HKw.out.drewN m
              go_wp2
              go_ret
              exact ⟨rfl, hKf⟩
    · go_enter Try.func6, Try.ntmps6
      go_wp2_with (with_reducible change wpList _ _ _ (⟨_, Op.box _ _, _, _, _, _⟩ :: _) _ _; refine Great.wpList_boxTo rfl 23 _ rfl _ rfl g G0.out.symm (bvs key).toArray rfl ?_; generalize w.alloc (.cells (bvs key).toArray 23) = w1 at *)
      refine (wakes6_any _).mono ?_
      rintro e w2 ⟨rfl, hk2⟩
      have hne : ((n' : Int) != (n : Int)) = true := by simp; omega
      go_wp2
      go_ret
      exact ⟨rfl, kB.andThen hk2⟩
end Go.Proofs.Ytblcamkdkjobbaa
