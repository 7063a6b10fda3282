/-
  Contracts of the document's own answers for layer 4: two texts in one, what is expanded. No statement of the seed is proved here.
-/
import Derived.Test.YtckffideobjlfaaDoorLaw4a
namespace Go.Proofs.YtckffideobjlfaaDoor
open Go.RowKit
set_option linter.unusedVariables false

set_option maxRecDepth 100000 in
set_option maxHeartbeats 1000000 in
theorem rJoin_any (A A' : Option Addr) (n c n' c' : Nat) (xs ys : List UInt8) (w : World) (hr : RdB w A n c xs) (hp : RdB w A' n' c' ys) (hn : n ≤ 1000000) (hn' : n' ≤ 1000000) :
    Calls Tryd.prog 17 #[.slice A n c, .slice A' n' c'] w (CloneRet (xs ++ ys) w) := by
  obtain ⟨i0, hi, hz0, hz1, hz2⟩ := info_parts u8info
  have Hl := Lib.hid hr.len
  go_enter Tryd.func17, Tryd.ntmps17
  go_wp2_with (at_builtin; refine wpList_append_bytes rfl (.tmp 6) (.tmp 7) 22 rfl 5 i0 _ 1 Tryd.underlying22 hi hz0 hz1 hz2 rfl (.slice none 0 0) [] rfl (OwB.nil _ _) A n c xs rfl hr (by simp only [maxLen, List.length_nil]; omega) (by simp only [List.length_nil]; omega) ?_)
  intro v3 w3 ho3 hk3 hm3
  obtain ⟨hK3, hb3⟩ := app_new (Kept.refl [] w) (by simp [Value.ownBlock]) hk3 hm3
  obtain ⟨A3, n3, c3, rfl, _, _⟩ := ho3.form
  have Hb3 := Lib.hid hb3
  clear hk3 hm3 hb3
  go_wp2_with (at_builtin; refine wpList_append_bytes rfl (.tmp 9) (.tmp 10) 22 rfl 5 i0 _ 1 Tryd.underlying22 hi hz0 hz1 hz2 rfl (.slice A3 n3 c3) _ rfl ho3 A' n' c' ys rfl (hp.kept0 hK3) (by rw [Hl.out]; simp only [maxLen]; omega) (by rw [Hl.out]; omega) ?_)
  intro v4 w4 ho4 hk4 hm4
  obtain ⟨hK4, hb4⟩ := app_new hK3 Hb3.out hk4 hm4
  obtain ⟨A4, n4, c4, rfl, _, _⟩ := ho4.form
  clear hk4 hm4 ho3 hK3 Hb3
  go_wp2
  go_ret
  exact ⟨_, rfl, ho4, hK4, hb4⟩

theorem rE_no (key : List UInt8) (A' : Option Addr) (n' c' : Nat) (n : Int) (w : World) (hn : n < 0 ∨ 8160 < n) :
    Calls Tryd.prog 10 #[.agg (bvs key).toArray, .slice A' n' c', .int .i64 n] w (ExpRet [] 14 w) := by
  have hK1 : Kept [] w (w.alloc (.cells (bvs key).toArray 25)) := (Kept.refl [] w).alloc _
  rcases hn with h | h
  · go_enter Tryd.func10, Tryd.ntmps10
    go_wp2_with (with_reducible change wpList _ _ _ (⟨_, Op.box _ _, _, _, _, _⟩ :: _) _ _; refine Great.wpList_boxTo rfl 25 _ rfl _ rfl w.heap.size rfl (bvs key).toArray rfl ?_; generalize w.alloc (.cells (bvs key).toArray 25) = w1 at *)
    go_ret2
    exact ⟨none, 0, 0, rfl, RdB.nil _, hK1⟩
  · go_enter Tryd.func10, Tryd.ntmps10
    go_wp2_with (with_reducible change wpList _ _ _ (⟨_, Op.box _ _, _, _, _, _⟩ :: _) _ _; refine Great.wpList_boxTo rfl 25 _ rfl _ rfl w.heap.size rfl (bvs key).toArray rfl ?_; generalize w.alloc (.cells (bvs key).toArray 25) = w1 at *)
    go_ret2
    exact ⟨none, 0, 0, rfl, RdB.nil _, hK1⟩

theorem u8_of (i : Nat) : IntKind.u8.wrap (i : Int) = ((UInt8.ofNat i).toNat : Int) := by
  rw [UInt8.toNat_ofNat']
  simp [IntKind.wrap, IntKind.bits, IntKind.signed]
theorem u8_of1 (i : Nat) : IntKind.u8.wrap ((i : Int) + 1) = ((UInt8.ofNat (i + 1)).toNat : Int) := by
  rw [← u8_of]; congr 1

set_option maxRecDepth 100000 in
set_option maxHeartbeats 4000000 in
theorem rE_any (key info : List UInt8) (A' : Option Addr) (n' c' n : Nat) (w : World) (hkl : key.length = 32) (hi : RdB w A' n' c' info) (hn : n ≤ 8160) (hn' : n' ≤ 90000) :
    Calls Tryd.prog 10 #[.agg (bvs key).toArray, .slice A' n' c', .int .i64 n] w (ExpRet (hkE key info n) 0 w) := by
  obtain ⟨i0, hi0, hz0, hz1, hz2⟩ := info_parts u8info
  have hB := Blk.new w 25 (bvs key)
  have hK1 : Kept [] w (w.alloc (.cells (bvs key).toArray 25)) := (Kept.refl [] w).alloc _
  have Hkl := Lib.hid hkl
  have Hi := Lib.hid hi.len
  obtain ⟨g3, hg3⟩ : ∃ g, g = w.heap.size := ⟨_, rfl⟩
  rw [← hg3] at hB
  have hw3 : w.heap.size ≤ g3 := by omega
  go_enter Tryd.func10, Tryd.ntmps10
  go_wp2_with (with_reducible change wpList _ _ _ (⟨_, Op.box _ _, _, _, _, _⟩ :: _) _ _; refine Great.wpList_boxTo rfl 25 _ rfl _ rfl g3 hg3.symm (bvs key).toArray rfl ?_; generalize w.alloc (.cells (bvs key).toArray 25) = w1 at *)
  rw [← hg3]
  clear hkl hg3
  go_loopw [8, 9, 10] (fun o l i wr => ∃ (k : Nat) (A8 : Option Addr) (n8 c8 : Nat) (A9 : Option Addr) (n9 c9 : Nat), k ≤ 255 ∧ i = .int .i64 (k + 1 : Nat) ∧ o = .slice A8 n8 c8 ∧ l = .slice A9 n9 c9 ∧ Hid (n8 = 32 * k) ∧ OwB 5 wr (.slice A8 n8 c8) (hkO key info k) ∧ RdB wr A9 n9 c9 (hkT key info k) ∧ Blk wr g3 25 (bvs key) ∧ Kept [] w wr ∧ Hid (∀ g, (Value.slice A8 n8 c8).ownBlock = some g → w.heap.size ≤ g ∧ g ≠ g3)) (fun _ _ i _ => 256 - (intOf i).toNat)
  case atStart => exact ⟨0, none, 0, 0, none, 0, 0, by omega, rfl, rfl, rfl, Lib.hid rfl, by rw [hkO_zero]; exact OwB.nil _ _, by rw [hkT_zero]; exact RdB.nil _, hB, hK1, Lib.hid (by simp [Value.ownBlock])⟩
  case round =>
    obtain ⟨k, A8, n8, c8, A9, n9, c9, hk, rfl, rfl, rfl, hn8, ho8, hr9, hB9, hK9, Hb9⟩ := hrel
    clear hB hK1
    have hcap8 := ho8.rd.cap
    have hmost8 := ho8.rd.most
    unfold maxLen at hmost8
    by_cases hlt : n8 < n
    · have hk2 : k < 255 := by have := hn8.out; omega
      have hl9 : n9 ≤ 32 := by have := hr9.len; have := hkT_le key info k; omega
      have hlt8 : ∀ g, (Value.slice A8 n8 c8).ownBlock = some g → g < wr.heap.size := by obtain ⟨_, _, _, _, _, hh⟩ := ho8.form; exact hh
      have Hlt8 := Lib.hid hlt8
      have HL9 := Lib.hid hr9.len
      clear hlt8
      go_wp2_with fail
      refine (rJoin_any A9 A' n9 c9 n' c' (hkT key info k) info _ hr9 (hi.kept0 hK9) (by omega) (by omega)).mono ?_
      rintro e w2 ⟨v2, rfl, ho2, hk2', hb2⟩
      obtain ⟨A2, n2, c2, rfl, _, _⟩ := ho2.form
      have HA : Hid (Kept [] wr (w2.alloc (.cells #[.int .u8 ((k : Int) + 1)] 5))) := Lib.hid (hk2'.alloc _)
      have HR := Lib.hid (RdB.one w2 5 ((k : Int) + 1) (UInt8.ofNat (k + 1)) (by rw [UInt8.toNat_ofNat']; omega))
      have HLt : Hid ((hkT key info k ++ info).length ≤ 91000) := Lib.hid (by rw [List.length_append, HL9.out, Hi.out]; omega)
      have Hb2 := Lib.hid hb2
      clear hb2 hk2' hr9
      go_wp2_with (at_builtin; refine wpList_append_bytes rfl (.tmp 27) (.tmp 30) 22 rfl 5 i0 _ 1 Tryd.underlying22 hi0 hz0 hz1 hz2 rfl (.slice A2 n2 c2) _ rfl (ho2.alloc _) _ 1 1 [UInt8.ofNat (k + 1)] rfl HR.out (by have := HLt.out; simp only [maxLen]; omega) (by have := HLt.out; omega) ?_)
      intro v3 w3 ho3 hk3 hm3
      obtain ⟨hK3, hb3⟩ := app_new HA.out Hb2.out hk3 hm3
      obtain ⟨A3, n3, c3, rfl, hr3, _⟩ := ho3.form
      have hn3 : n3 ≤ 100000 := by have h1 := hr3.len; have h2 := HLt.out; simp only [List.length_append, List.length_singleton] at h1 h2; omega
      have hB3 := hB9.kept0 hK3
      have ho83 := ho8.kept0 hK3
      clear HA HR Hb2 hk3 hm3 hb3 ho2 ho3 ho8 hB9
      go_wp2_with (with_reducible change wpList _ _ _ (⟨_, Op.load _ _, _, _, _, _⟩ :: _) _ _; refine wpList_load_blk rfl 25 (.tmp 3) rfl g3 rfl 25 _ _ hB3 arr32b rfl (size_of_len size32 Hkl.out) ?_)
      go_wp2_with fail
      refine (rBytes_any key _ Hkl.out).mono ?_
      rintro e w4 ⟨v4, rfl, ho4, hk4, hb4⟩
      obtain ⟨A4, n4, c4, rfl, hr4, _⟩ := ho4.form
      have hn4 : n4 = 32 := by have := hr4.len; have := Hkl.out; omega
      subst hn4
      have hK4 := hK3.andThen hk4
      have hB4 := hB3.kept0 hk4
      have ho84 := ho83.kept0 hk4
      have hr34 : RdB w4 A3 n3 c3 (hkT key info k ++ info ++ [UInt8.ofNat (k + 1)]) := by simpa using hr3.kept0 hk4
      clear hb4 hk4 hB3 ho83 hr3 hK3 ho4
      go_wp2_with fail
      refine (rTag_any A4 A3 32 c4 n3 c3 key _ _ hr4 hr34 (by omega) hn3).mono ?_
      rw [← hkT_succ]
      rintro e w5 ⟨rfl, hk5⟩
      have hK5 := hK4.andThen hk5
      have hB5 := hB4.kept0 hk5
      have ho85 := ho84.kept0 hk5
      have ht := hkT_length key info k
      have Ht := Lib.hid ht
      clear hk5 hK4 hB4 ho84 hr4 hr34 ht
      go_wp2_with fail
      refine (rBytes_any (hkT key info (k + 1)) _ Ht.out).mono ?_
      rintro e w6 ⟨v6, rfl, ho6, hk6, hb6⟩
      obtain ⟨A6, n6, c6, rfl, hr6, _⟩ := ho6.form
      have hn6 : n6 = 32 := by have := hr6.len; have := Ht.out; omega
      subst hn6
      have hK6 := hK5.andThen hk6
      have hB6 := hB5.kept0 hk6
      have ho86 := ho85.kept0 hk6
      have HO8 : Hid ((hkO key info k).length = 32 * k) := Lib.hid (hkO_length key info k)
      have HOff : Hid (Off A6 ((Value.slice A8 n8 c8).ownBlock.toList)) := Lib.hid (by
        intro a ha hin
        subst ha
        have h1 := hb6 a.block rfl
        have h2 := Hlt8.out a.block (by simpa using hin)
        have h3 := hK5.size
        omega)
      clear hk6 hK5 hB5 ho85 hb6 ho6
      go_wp2_with (at_builtin; refine wpList_append_bytes rfl (.tmp 37) (.tmp 38) 22 rfl 5 i0 _ 1 Tryd.underlying22 hi0 hz0 hz1 hz2 rfl (.slice A8 n8 c8) _ rfl ho86 A6 32 c6 _ rfl hr6 (by have := hn8.out; rw [HO8.out]; simp only [maxLen]; omega) (by rw [HO8.out]; omega) ?_)
      intro v7 w7 ho7 hk7 hm7
      rw [← hkO_succ] at ho7
      have hKw := hK9.andThen hK6
      obtain ⟨hK7, _⟩ := app_new hKw (fun g hg => (Hb9.out g hg).1) hk7 hm7
      obtain ⟨A7, n7, c7, rfl, hr7, _⟩ := ho7.form
      have hn7 : Hid (n7 = 32 * (k + 1)) := Lib.hid (by have := hr7.len; rw [hkO_length] at this; omega)
      have hr67 := hr6.kept hk7 HOff.out
      have hB7 := hB6.kept hk7 (fun hin => (Hb9.out g3 (by simpa using hin)).2 rfl)
      have hb7 : ∀ g, (Value.slice A7 n7 c7).ownBlock = some g → w.heap.size ≤ g ∧ g ≠ g3 := by
        intro g hg
        rcases hm7 g hg with h | h
        · exact Hb9.out g h
        · have h1 := hB6.lt
          have h2 := hKw.size
          exact ⟨by omega, by omega⟩
      have Hb7 := Lib.hid hb7
      clear hk7 hm7 hb7 hr7 HOff HO8 hr6 ho86 hB6 hK6 Hb9 Hlt8 hKw hK9
      go_wp2
      go_roundw
      case rel => exact ⟨k + 1, A7, n7, c7, A6, 32, c6, by omega, by go_num, rfl, rfl, hn7, ho7, hr67, hB7, hK7, Hb7⟩
      case measure => simp [intOf]; omega
    · have hge : n ≤ 32 * k := by have := hn8.out; omega
      have hcut := fun W => run_cut_first (P := Tryd.prog) 22 5 Tryd.underlying22 size1b A8 n8 c8 n (n : Int) rfl (by omega) W
      have hrd := ho8.rd.take n (by omega)
      rw [hkE_eq hge hk] at hrd
      clear ho8 hr9 hB9 Hb9
      go_wp2
      go_ret2
      exact ⟨_, n, c8, rfl, hrd, hK9⟩
end Go.Proofs.YtckffideobjlfaaDoor
