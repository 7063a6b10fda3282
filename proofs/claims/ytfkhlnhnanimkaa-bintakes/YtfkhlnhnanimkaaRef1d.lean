/-
  Contract of the document's own answer of layer 1: a text that is taken. No statement of the seed is proved here.
-/
import Derived.Test.YtfkhlnhnanimkaaRef1c
import Derived.Test.YtfkhlnhnanimkaaMemStep
namespace Go.Proofs.Ytfkhlnhnanimkaa
open Go.RowKit
set_option linter.unusedVariables false

theorem rfTakeSmall_at (A : Option Addr) (n c : Nat) (bs : List UInt8) (a : Nat) (most : Int) (w : World) (hr : RdB w A n c bs) (ha : a ≤ n) (hn : n ≤ 1000000) (h0 : 0 ≤ most) {x d er : Nat} (ht : tsm (bs.drop a) most.toNat = (x, d, er)) :
    Calls Try.prog 23 #[.slice A n c, .int .i64 a, .int .u64 most] w (GotRet x [] d er w) := by
  have := rfTakeSmall_any A n c bs a most w hr ha hn h0
  rw [ht] at this
  exact this

/-- The cells of a block of four. -/
theorem blk4 {w : World} {g : Nat} {v0 v1 v2 v3 : Value} {t : TypeId} (hb : w.heap[g]? = some (.cells #[v0, v1, v2, v3] t (0, 0))) :
    (w.cell? ⟨g, 0, none⟩ = some v0 ∧ w.cell? ⟨g, 1, none⟩ = some v1 ∧ w.cell? ⟨g, 2, none⟩ = some v2 ∧ w.cell? ⟨g, 3, none⟩ = some v3) ∧
    (w.frozen? ⟨g, 0, none⟩ = false ∧ w.frozen? ⟨g, 1, none⟩ = false ∧ w.frozen? ⟨g, 2, none⟩ = false ∧ w.frozen? ⟨g, 3, none⟩ = false) ∧ g < w.heap.size := by
  refine ⟨⟨?_, ?_, ?_, ?_⟩, ⟨?_, ?_, ?_, ?_⟩, (Array.getElem?_eq_some_iff.1 hb).1⟩
  · rw [cell_of_row _ _ _ _ _ _ hb]; rfl
  · rw [cell_of_row _ _ _ _ _ _ hb]; rfl
  · rw [cell_of_row _ _ _ _ _ _ hb]; rfl
  · rw [cell_of_row _ _ _ _ _ _ hb]; rfl
  all_goals exact frozen_of_row _ _ _ _ _ hb
/-- A block of four cells that the call made, behind a call that turned nothing old. -/
theorem four_cells {w w1 : World} {v0 v1 v2 v3 : Value} {t : TypeId} (hk : Kept [] (w.alloc (.cells #[v0, v1, v2, v3] t)) w1) :
    (w1.cell? ⟨w.heap.size, 0, none⟩ = some v0 ∧ w1.cell? ⟨w.heap.size, 1, none⟩ = some v1 ∧ w1.cell? ⟨w.heap.size, 2, none⟩ = some v2 ∧ w1.cell? ⟨w.heap.size, 3, none⟩ = some v3) ∧
    (w1.frozen? ⟨w.heap.size, 0, none⟩ = false ∧ w1.frozen? ⟨w.heap.size, 1, none⟩ = false ∧ w1.frozen? ⟨w.heap.size, 2, none⟩ = false ∧ w1.frozen? ⟨w.heap.size, 3, none⟩ = false) ∧ w.heap.size < w1.heap.size :=
  blk4 ((hk.block w.heap.size (by simp) (by simp)).trans (heap_alloc_new w _))
theorem second_block (w1 : World) (O1 O2 : Obj) : ((w1.alloc O1).alloc O2).drew.heap[w1.heap.size + 1]? = some O2 := by
  show ((w1.alloc O1).alloc O2).heap[w1.heap.size + 1]? = some O2
  have := heap_alloc_new (w1.alloc O1) O2
  simpa using this
theorem old_block (w1 : World) (O1 O2 : Obj) (g : Nat) (hg : g < w1.heap.size) : ((w1.alloc O1).alloc O2).drew.heap[g]? = w1.heap[g]? := by
  show ((w1.alloc O1).alloc O2).heap[g]? = w1.heap[g]?
  rw [Below.heap_alloc _ _ _ (by simp; omega), Below.heap_alloc _ _ _ hg]

theorem text_end {w w1 w2 : World} {x d : Nat} {A2 : Option Addr} {n2 c2 : Nat} {T : List UInt8} {t : TypeId} {u0 u1 u2 u3 u4 u5 u6 u7 s0 s1 s2 s3 s4 : Value} (hk1 : Kept [] w w1)
    (hk2 : Kept (Value.slice none 0 0).ownBlock.toList ((w1.alloc (.cells #[u0, u1, u2, u3] t)).alloc (.cells #[u4, u5, u6, u7] t)).drew w2)
    (hm2 : Moved ((w1.alloc (.cells #[u0, u1, u2, u3] t)).alloc (.cells #[u4, u5, u6, u7] t)).drew (.slice none 0 0) (.slice A2 n2 c2)) (hown2 : OwB 5 w2 (.slice A2 n2 c2) ([] ++ T)) (hlt : w.heap.size < w1.heap.size) :
    GotRet 0 T (d + x) 0 w (.returned (.agg #[.int .u64 0, .slice A2 n2 c2, .int .i64 ((d : Int) + (x : Int)), .int .i64 0]))
      (((((w2.setCell ⟨w1.heap.size + 1, 1, none⟩ s0).setCell ⟨w.heap.size, 0, none⟩ s1).setCell ⟨w.heap.size, 1, none⟩ s2).setCell ⟨w.heap.size, 2, none⟩ s3).setCell ⟨w.heap.size, 3, none⟩ s4) := by
  have hS : Kept [w1.heap.size + 1, w.heap.size] w2 (((((w2.setCell ⟨w1.heap.size + 1, 1, none⟩ s0).setCell ⟨w.heap.size, 0, none⟩ s1).setCell ⟨w.heap.size, 1, none⟩ s2).setCell ⟨w.heap.size, 2, none⟩ s3).setCell ⟨w.heap.size, 3, none⟩ s4) :=
    (((((Kept.refl _ _).setCell (by simp) _).setCell (by simp) _).setCell (by simp) _).setCell (by simp) _).setCell (by simp) _
  have hnew : ∀ g, (Value.slice A2 n2 c2).ownBlock = some g → w1.heap.size + 2 ≤ g := by
    intro g hg
    rcases hm2 g hg with h | h
    · simp [Value.ownBlock] at h
    · simpa using h
  have hk02 : Kept [] w w2 := by
    refine (((hk1.alloc _).alloc _).drew).trans hk2 ?_
    simp [Value.ownBlock]
  refine ⟨.slice A2 n2 c2, by simp, ?_, hk02.trans hS (by simp; omega), fun g hg => by have := hnew g hg; omega⟩
  have h2 : OwB 5 w2 (.slice A2 n2 c2) T := by simpa using hown2
  exact h2.kept hS (fun g hg => by have := hnew g hg; simp; omega)

set_option maxHeartbeats 4000000 in
set_option maxRecDepth 100000 in
theorem rfTakeText_any (A : Option Addr) (n c : Nat) (bs : List UInt8) (a : Nat) (most : Int) (w : World) (hr : RdB w A n c bs) (ha : a ≤ n) (hn : n ≤ 1000000) (h1 : -9223372036854775808 ≤ most) (h2 : most ≤ 9223372036854775807) :
    Calls Try.prog 25 #[.slice A n c, .int .i64 a, .int .i64 most] w (GotRet 0 (ttext (bs.drop a) most).1 (ttext (bs.drop a) most).2.1 (ttext (bs.drop a) most).2.2 w) := by
  obtain ⟨x, d, er, ht⟩ : ∃ x d er, tsm (bs.drop a) (max most 0).toNat = (x, d, er) := ⟨_, _, _, rfl⟩
  obtain ⟨hx, hs, hs5, he3, hz⟩ := tsm_facts ht
  have htt : ttext (bs.drop a) most = if er ≠ 0 then ([], 0, er) else if (bs.drop a).length - d < x then ([], 0, 1) else (((bs.drop a).drop d).take x, d + x, 0) := by
    unfold ttext; rw [ht]
  rw [htt]
  have hl := hr.len
  rw [List.length_drop] at hs htt ⊢
  have HT := Lib.hid ht
  clear ht htt
  by_cases hm : most < 0
  · have hmx : (max most 0) = 0 := by omega
    rw [hmx] at HT
    clear hmx
    by_cases her : er = 0
    · subst her
      rw [if_neg (by simp)]
      by_cases hsh : bs.length - a - d < x
      · rw [if_pos hsh]
        have hg : (n : Int) - ((a : Int) + (d : Int)) < (x : Int) := by omega
        have hg2 : a + d ≤ n := by omega
        clear hz hl
        go_enter Try.func25, Try.ntmps25
        go_wp2_with fail
        refine (rfTakeSmall_at A n c bs a 0 _ (hr.alloc _) ha hn (by omega) HT.out).mono ?_
        rintro e w1 ⟨v, rfl, ho, hk, hf⟩
        obtain ⟨A1, n1, c1, rfl, hrd, hbl⟩ := ho.form
        obtain ⟨⟨e0, e1, e2, e3⟩, ⟨f0, f1, f2, f3⟩, hlt⟩ := four_cells hk
        go_wp2
        refine bodyPost_ret (v := .agg #[.int .u64 0, .slice none 0 0, .int .i64 0, .int .i64 1]) (by simp [results, Try.results25, go_sem, hlt, e0, e1, e2, e3]) rfl (got_nil 0 0 1 rfl ?_)
        refine Kept.alloc ?_ _
        exact ((((((Kept.refl [] w).alloc _).andThen hk).setCell (by simp) _).setCell (by simp) _).setCell (by simp) _).setCell (by simp) _
      · rw [if_neg hsh]
        have hg : (x : Int) ≤ (n : Int) - ((a : Int) + (d : Int)) := by omega
        have hg2 : a + d + x ≤ n := by omega
        have hcc := hr.cap
        have hcm := hr.most
        unfold maxLen at hcm
        have hcut := (hr.drop (a + d) (by omega)).take x (by omega)
        rw [← List.drop_drop] at hcut
        clear hz hl hsh
        obtain ⟨i0, hi, hz0, hz1, hz2⟩ := info_parts u8info
        generalize hT : ((bs.drop a).drop d).take x = T at *
        clear hT
        by_cases hcs : c = a + d
        · rw [if_pos hcs, hcs, Nat.sub_self] at hcut
          obtain rfl : x = 0 := by omega
          obtain rfl : n = a + d := by omega
          subst hcs
          go_enter Try.func25, Try.ntmps25
          go_wp2_with fail
          refine (rfTakeSmall_at A (a + d) (a + d) bs a 0 _ (hr.alloc _) ha hn (by omega) HT.out).mono ?_
          rintro e w1 ⟨v, rfl, ho, hk, hf⟩
          obtain ⟨A1, n1, c1, rfl, hrd, hbl⟩ := ho.form
          obtain ⟨⟨e0, e1, e2, e3⟩, ⟨f0, f1, f2, f3⟩, hlt⟩ := four_cells hk
          have hk1 : Kept [] w w1 := ((Kept.refl [] w).alloc _).andThen hk
          have hc1 := hcut.kept0 hk1
          have hb1 := Lib.hid ((hk.block w.heap.size (by simp) (by simp)).trans (heap_alloc_new w _))
          go_wp2
          have q1 : IntKind.i64.wrap (0 : Int) = 0 := IntWalk.i64_in _ (by omega)
          have q2 : IntKind.i64.wrap ((a : Int) + (d : Int)) = (a : Int) + (d : Int) := IntWalk.i64_in _ (by omega)
          have q5 : (0 : Int) ≤ (a : Int) + (d : Int) := by omega
          have q6 : max ((a : Int) + (d : Int)) 0 = (a : Int) + (d : Int) := by omega
          have q8 : ((a : Int) + (d : Int)).toNat = a + d := by omega
          go_region_law (refine step_append_bytes rfl (.tmp 42) (.tmp 50) 25 rfl 5 i0 _ 1 Try.underlying25 hi hz0 hz1 hz2 rfl (.slice none 0 0) [] rfl (OwB.nil _ _) _ 0 _ _ rfl ((((hc1.alloc _).alloc _).drew)) (by simp only [maxLen, List.length_nil]; omega) (by simp only [List.length_nil]; omega) ?_; intro v2 w2 hown2 hk2 hm2; obtain ⟨A2, n2, c2, rfl, hrd2, hbl2⟩ := hown2.form; obtain ⟨⟨g0, g1, g2, g3⟩, ⟨k0, k1, k2, k3⟩, hlt2⟩ := blk4 ((hk2.block (w1.heap.size + 1) (by simp) (by simp [Value.ownBlock])).trans (second_block w1 _ _)); obtain ⟨⟨m0, m1, m2, m3⟩, ⟨l0, l1, l2, l3⟩, hlt3⟩ := blk4 ((hk2.block w.heap.size (by simp; omega) (by simp [Value.ownBlock])).trans ((old_block w1 _ _ _ hlt).trans hb1.out)))
          clear q1 q2 q5 q6 q8
          all_goals go_wp2
          all_goals refine bodyPost_ret (v := .agg #[.int .u64 0, .slice A2 n2 c2, .int .i64 (d : Int), .int .i64 0]) (by simp [results, Try.results25, go_sem, m0, m1, m2, m3]) rfl (text_end hk1 hk2 hm2 hown2 hlt)
        · rw [if_neg hcs] at hcut
          go_enter Try.func25, Try.ntmps25
          go_wp2_with fail
          refine (rfTakeSmall_at A n c bs a 0 _ (hr.alloc _) ha hn (by omega) HT.out).mono ?_
          rintro e w1 ⟨v, rfl, ho, hk, hf⟩
          obtain ⟨A1, n1, c1, rfl, hrd, hbl⟩ := ho.form
          obtain ⟨⟨e0, e1, e2, e3⟩, ⟨f0, f1, f2, f3⟩, hlt⟩ := four_cells hk
          have hk1 : Kept [] w w1 := ((Kept.refl [] w).alloc _).andThen hk
          have hc1 := hcut.kept0 hk1
          have hb1 := Lib.hid ((hk.block w.heap.size (by simp) (by simp)).trans (heap_alloc_new w _))
          go_wp2
          have q1 : IntKind.i64.wrap (x : Int) = (x : Int) := IntWalk.i64_in _ (by omega)
          have q2 : IntKind.i64.wrap ((a : Int) + (d : Int) + (x : Int)) = (a : Int) + (d : Int) + (x : Int) := IntWalk.i64_in _ (by omega)
          have q3 : (0 : Int) ≤ (a : Int) + (d : Int) + (x : Int) := by omega
          have q4 : (a : Int) + (d : Int) + (x : Int) ≤ (c : Int) := by omega
          have q5 : (0 : Int) ≤ (a : Int) + (d : Int) := by omega
          have q6 : max ((a : Int) + (d : Int) + (x : Int)) 0 = (a : Int) + (d : Int) + (x : Int) := by omega
          have q7 : (a : Int) + (d : Int) ≤ (a : Int) + (d : Int) + (x : Int) := by omega
          have q8 : ((a : Int) + (d : Int)).toNat = a + d := by omega
          have q9 : ((a : Int) + (d : Int) + (x : Int)).toNat = a + d + x := by omega
          have q10 : a + d + x - (a + d) = x := by omega
          go_region_law (refine step_append_bytes rfl (.tmp 42) (.tmp 50) 25 rfl 5 i0 _ 1 Try.underlying25 hi hz0 hz1 hz2 rfl (.slice none 0 0) [] rfl (OwB.nil _ _) _ x _ _ rfl ((((hc1.alloc _).alloc _).drew)) (by simp only [maxLen, List.length_nil]; omega) (by simp only [List.length_nil]; omega) ?_; intro v2 w2 hown2 hk2 hm2; obtain ⟨A2, n2, c2, rfl, hrd2, hbl2⟩ := hown2.form; obtain ⟨⟨g0, g1, g2, g3⟩, ⟨k0, k1, k2, k3⟩, hlt2⟩ := blk4 ((hk2.block (w1.heap.size + 1) (by simp) (by simp [Value.ownBlock])).trans (second_block w1 _ _)); obtain ⟨⟨m0, m1, m2, m3⟩, ⟨l0, l1, l2, l3⟩, hlt3⟩ := blk4 ((hk2.block w.heap.size (by simp; omega) (by simp [Value.ownBlock])).trans ((old_block w1 _ _ _ hlt).trans hb1.out)))
          clear q1 q2 q3 q4 q5 q6 q7 q8 q9 q10
          all_goals go_wp2
          all_goals refine bodyPost_ret (v := .agg #[.int .u64 0, .slice A2 n2 c2, .int .i64 ((d : Int) + (x : Int)), .int .i64 0]) (by simp [results, Try.results25, go_sem, m0, m1, m2, m3]) rfl (text_end hk1 hk2 hm2 hown2 hlt)
    · obtain ⟨rfl, rfl⟩ := hz her
      rw [if_pos her]
      have hne : ((er : Int) != 0) = true := by simp; omega
      clear hz hl
      go_enter Try.func25, Try.ntmps25
      go_wp2_with fail
      refine (rfTakeSmall_at A n c bs a 0 _ (hr.alloc _) ha hn (by omega) HT.out).mono ?_
      rintro e w1 ⟨v, rfl, ho, hk, hf⟩
      obtain ⟨A1, n1, c1, rfl, hrd, hbl⟩ := ho.form
      obtain ⟨⟨e0, e1, e2, e3⟩, ⟨f0, f1, f2, f3⟩, hlt⟩ := four_cells hk
      go_wp2
      have hkk : ∀ (u0 u1 u2 u3 : Value), Kept [w.heap.size] w1 ((((w1.setCell ⟨w.heap.size, 0, none⟩ u0).setCell ⟨w.heap.size, 1, none⟩ u1).setCell ⟨w.heap.size, 2, none⟩ u2).setCell ⟨w.heap.size, 3, none⟩ u3) := fun _ _ _ _ => ((((Kept.refl _ _).setCell (by simp) _).setCell (by simp) _).setCell (by simp) _).setCell (by simp) _
      refine bodyPost_ret (v := .agg #[.int .u64 0, .slice A1 n1 c1, .int .i64 0, .int .i64 er]) (by simp [results, Try.results25, go_sem, hlt, e0, e1, e2, e3]) rfl ⟨_, rfl, (ho.kept (hkk _ _ _ _) ?_).alloc _, Kept.alloc ((((Kept.refl [] w).alloc _).andThen hk).trans (hkk _ _ _ _) (by simp)) _, ?_⟩
      · intro g hg
        have := hf g hg
        simp at this ⊢
        omega
      · intro g hg
        have := hf g hg
        simp at this
        omega
  · have hmx : (max most 0) = most := by omega
    rw [hmx] at HT
    clear hmx
    by_cases her : er = 0
    · subst her
      rw [if_neg (by simp)]
      by_cases hsh : bs.length - a - d < x
      · rw [if_pos hsh]
        have hg : (n : Int) - ((a : Int) + (d : Int)) < (x : Int) := by omega
        have hg2 : a + d ≤ n := by omega
        clear hz hl
        go_enter Try.func25, Try.ntmps25
        go_wp2_with fail
        refine (rfTakeSmall_at A n c bs a most _ (hr.alloc _) ha hn (by omega) HT.out).mono ?_
        rintro e w1 ⟨v, rfl, ho, hk, hf⟩
        obtain ⟨A1, n1, c1, rfl, hrd, hbl⟩ := ho.form
        obtain ⟨⟨e0, e1, e2, e3⟩, ⟨f0, f1, f2, f3⟩, hlt⟩ := four_cells hk
        go_wp2
        refine bodyPost_ret (v := .agg #[.int .u64 0, .slice none 0 0, .int .i64 0, .int .i64 1]) (by simp [results, Try.results25, go_sem, hlt, e0, e1, e2, e3]) rfl (got_nil 0 0 1 rfl ?_)
        refine Kept.alloc ?_ _
        exact ((((((Kept.refl [] w).alloc _).andThen hk).setCell (by simp) _).setCell (by simp) _).setCell (by simp) _).setCell (by simp) _
      · rw [if_neg hsh]
        have hg : (x : Int) ≤ (n : Int) - ((a : Int) + (d : Int)) := by omega
        have hg2 : a + d + x ≤ n := by omega
        have hcc := hr.cap
        have hcm := hr.most
        unfold maxLen at hcm
        have hcut := (hr.drop (a + d) (by omega)).take x (by omega)
        rw [← List.drop_drop] at hcut
        clear hz hl hsh
        obtain ⟨i0, hi, hz0, hz1, hz2⟩ := info_parts u8info
        generalize hT : ((bs.drop a).drop d).take x = T at *
        clear hT
        by_cases hcs : c = a + d
        · rw [if_pos hcs, hcs, Nat.sub_self] at hcut
          obtain rfl : x = 0 := by omega
          obtain rfl : n = a + d := by omega
          subst hcs
          go_enter Try.func25, Try.ntmps25
          go_wp2_with fail
          refine (rfTakeSmall_at A (a + d) (a + d) bs a most _ (hr.alloc _) ha hn (by omega) HT.out).mono ?_
          rintro e w1 ⟨v, rfl, ho, hk, hf⟩
          obtain ⟨A1, n1, c1, rfl, hrd, hbl⟩ := ho.form
          obtain ⟨⟨e0, e1, e2, e3⟩, ⟨f0, f1, f2, f3⟩, hlt⟩ := four_cells hk
          have hk1 : Kept [] w w1 := ((Kept.refl [] w).alloc _).andThen hk
          have hc1 := hcut.kept0 hk1
          have hb1 := Lib.hid ((hk.block w.heap.size (by simp) (by simp)).trans (heap_alloc_new w _))
          go_wp2
          have q1 : IntKind.i64.wrap (0 : Int) = 0 := IntWalk.i64_in _ (by omega)
          have q2 : IntKind.i64.wrap ((a : Int) + (d : Int)) = (a : Int) + (d : Int) := IntWalk.i64_in _ (by omega)
          have q5 : (0 : Int) ≤ (a : Int) + (d : Int) := by omega
          have q6 : max ((a : Int) + (d : Int)) 0 = (a : Int) + (d : Int) := by omega
          have q8 : ((a : Int) + (d : Int)).toNat = a + d := by omega
          go_region_law (refine step_append_bytes rfl (.tmp 42) (.tmp 50) 25 rfl 5 i0 _ 1 Try.underlying25 hi hz0 hz1 hz2 rfl (.slice none 0 0) [] rfl (OwB.nil _ _) _ 0 _ _ rfl ((((hc1.alloc _).alloc _).drew)) (by simp only [maxLen, List.length_nil]; omega) (by simp only [List.length_nil]; omega) ?_; intro v2 w2 hown2 hk2 hm2; obtain ⟨A2, n2, c2, rfl, hrd2, hbl2⟩ := hown2.form; obtain ⟨⟨g0, g1, g2, g3⟩, ⟨k0, k1, k2, k3⟩, hlt2⟩ := blk4 ((hk2.block (w1.heap.size + 1) (by simp) (by simp [Value.ownBlock])).trans (second_block w1 _ _)); obtain ⟨⟨m0, m1, m2, m3⟩, ⟨l0, l1, l2, l3⟩, hlt3⟩ := blk4 ((hk2.block w.heap.size (by simp; omega) (by simp [Value.ownBlock])).trans ((old_block w1 _ _ _ hlt).trans hb1.out)))
          clear q1 q2 q5 q6 q8
          all_goals go_wp2
          all_goals refine bodyPost_ret (v := .agg #[.int .u64 0, .slice A2 n2 c2, .int .i64 (d : Int), .int .i64 0]) (by simp [results, Try.results25, go_sem, m0, m1, m2, m3]) rfl (text_end hk1 hk2 hm2 hown2 hlt)
        · rw [if_neg hcs] at hcut
          go_enter Try.func25, Try.ntmps25
          go_wp2_with fail
          refine (rfTakeSmall_at A n c bs a most _ (hr.alloc _) ha hn (by omega) HT.out).mono ?_
          rintro e w1 ⟨v, rfl, ho, hk, hf⟩
          obtain ⟨A1, n1, c1, rfl, hrd, hbl⟩ := ho.form
          obtain ⟨⟨e0, e1, e2, e3⟩, ⟨f0, f1, f2, f3⟩, hlt⟩ := four_cells hk
          have hk1 : Kept [] w w1 := ((Kept.refl [] w).alloc _).andThen hk
          have hc1 := hcut.kept0 hk1
          have hb1 := Lib.hid ((hk.block w.heap.size (by simp) (by simp)).trans (heap_alloc_new w _))
          go_wp2
          have q1 : IntKind.i64.wrap (x : Int) = (x : Int) := IntWalk.i64_in _ (by omega)
          have q2 : IntKind.i64.wrap ((a : Int) + (d : Int) + (x : Int)) = (a : Int) + (d : Int) + (x : Int) := IntWalk.i64_in _ (by omega)
          have q3 : (0 : Int) ≤ (a : Int) + (d : Int) + (x : Int) := by omega
          have q4 : (a : Int) + (d : Int) + (x : Int) ≤ (c : Int) := by omega
          have q5 : (0 : Int) ≤ (a : Int) + (d : Int) := by omega
          have q6 : max ((a : Int) + (d : Int) + (x : Int)) 0 = (a : Int) + (d : Int) + (x : Int) := by omega
          have q7 : (a : Int) + (d : Int) ≤ (a : Int) + (d : Int) + (x : Int) := by omega
          have q8 : ((a : Int) + (d : Int)).toNat = a + d := by omega
          have q9 : ((a : Int) + (d : Int) + (x : Int)).toNat = a + d + x := by omega
          have q10 : a + d + x - (a + d) = x := by omega
          go_region_law (refine step_append_bytes rfl (.tmp 42) (.tmp 50) 25 rfl 5 i0 _ 1 Try.underlying25 hi hz0 hz1 hz2 rfl (.slice none 0 0) [] rfl (OwB.nil _ _) _ x _ _ rfl ((((hc1.alloc _).alloc _).drew)) (by simp only [maxLen, List.length_nil]; omega) (by simp only [List.length_nil]; omega) ?_; intro v2 w2 hown2 hk2 hm2; obtain ⟨A2, n2, c2, rfl, hrd2, hbl2⟩ := hown2.form; obtain ⟨⟨g0, g1, g2, g3⟩, ⟨k0, k1, k2, k3⟩, hlt2⟩ := blk4 ((hk2.block (w1.heap.size + 1) (by simp) (by simp [Value.ownBlock])).trans (second_block w1 _ _)); obtain ⟨⟨m0, m1, m2, m3⟩, ⟨l0, l1, l2, l3⟩, hlt3⟩ := blk4 ((hk2.block w.heap.size (by simp; omega) (by simp [Value.ownBlock])).trans ((old_block w1 _ _ _ hlt).trans hb1.out)))
          clear q1 q2 q3 q4 q5 q6 q7 q8 q9 q10
          all_goals go_wp2
          all_goals refine bodyPost_ret (v := .agg #[.int .u64 0, .slice A2 n2 c2, .int .i64 ((d : Int) + (x : Int)), .int .i64 0]) (by simp [results, Try.results25, go_sem, m0, m1, m2, m3]) rfl (text_end hk1 hk2 hm2 hown2 hlt)
    · obtain ⟨rfl, rfl⟩ := hz her
      rw [if_pos her]
      have hne : ((er : Int) != 0) = true := by simp; omega
      clear hz hl
      go_enter Try.func25, Try.ntmps25
      go_wp2_with fail
      refine (rfTakeSmall_at A n c bs a most _ (hr.alloc _) ha hn (by omega) HT.out).mono ?_
      rintro e w1 ⟨v, rfl, ho, hk, hf⟩
      obtain ⟨A1, n1, c1, rfl, hrd, hbl⟩ := ho.form
      obtain ⟨⟨e0, e1, e2, e3⟩, ⟨f0, f1, f2, f3⟩, hlt⟩ := four_cells hk
      go_wp2
      have hkk : ∀ (u0 u1 u2 u3 : Value), Kept [w.heap.size] w1 ((((w1.setCell ⟨w.heap.size, 0, none⟩ u0).setCell ⟨w.heap.size, 1, none⟩ u1).setCell ⟨w.heap.size, 2, none⟩ u2).setCell ⟨w.heap.size, 3, none⟩ u3) := fun _ _ _ _ => ((((Kept.refl _ _).setCell (by simp) _).setCell (by simp) _).setCell (by simp) _).setCell (by simp) _
      refine bodyPost_ret (v := .agg #[.int .u64 0, .slice A1 n1 c1, .int .i64 0, .int .i64 er]) (by simp [results, Try.results25, go_sem, hlt, e0, e1, e2, e3]) rfl ⟨_, rfl, (ho.kept (hkk _ _ _ _) ?_).alloc _, Kept.alloc ((((Kept.refl [] w).alloc _).andThen hk).trans (hkk _ _ _ _) (by simp)) _, ?_⟩
      · intro g hg
        have := hf g hg
        simp at this ⊢
        omega
      · intro g hg
        have := hf g hg
        simp at this
        omega
end Go.Proofs.Ytfkhlnhnanimkaa
