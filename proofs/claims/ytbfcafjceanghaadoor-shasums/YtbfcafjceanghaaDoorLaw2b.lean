/-
  The walk of a law of layer 2: texts without bytes, wherever they stand among others, change no digest. No statement of the seed is proved here.
-/
import Derived.Test.YtbfcafjceanghaaDoorLaw2a
import Derived.Test.YtbfcafjceanghaaDoorTxts
namespace Go.Proofs.YtbfcafjceanghaaDoor
open Go.RowKit
set_option linter.unusedVariables false

theorem flat_le (ls : List (List UInt8)) (b : Nat) (h : ∀ l ∈ ls, l.length ≤ b) : ls.flatten.length ≤ ls.length * b := by
  induction ls with
  | nil => simp
  | cons x l ih =>
    have h1 := h x (by simp)
    have h2 := ih (fun y hy => h y (by simp [hy]))
    rw [List.flatten_cons, List.length_append, List.length_cons, Nat.succ_mul]
    omega
theorem infoB : (Tryd.prog.info? 22).map (fun i => (i.zero, i.size, i.bytes)) = some (some (.slice none 0 0), 1, 24) := by kernel_rfl

section
variable {P : Program} {w : World} {A : Option Addr} {n c : Nat} {vs : List Value}
theorem RdV.cutFrom (h : RdV w A n c vs) (t e : TypeId) (ht : P.underlying t = some (.slice e)) (hs : (P.info? e).map (·.size) = some 1) (k : Nat) (z : Int) (hz : z = (k : Int)) (hk : k ≤ n) :
    ∃ A', RdV w A' (n - k) (c - k) (vs.drop k) ∧ ∀ W, (Instr.slice t (.slice A n c) (some (.int .i64 z)) none none).run P W = .ok (.slice A' (n - k) (c - k)) W := by
  subst hz
  have hcap := h.cap
  refine ⟨_, h.drop k hk, fun W => ?_⟩
  have he : P.elem t = e := by simp [Program.elem, ht]
  rw [run_slice_l (P := P) W t A n c (by rw [he]; exact ht) .i64 (k : Int) (by omega) (by omega), size_of_elem t e ht hs W]
  simp [sliced, Result.andThen]
theorem RdV.cutTo (h : RdV w A n c vs) (t e : TypeId) (ht : P.underlying t = some (.slice e)) (hs : (P.info? e).map (·.size) = some 1) (k : Nat) (z : Int) (hz : z = (k : Int)) (hk : k ≤ n) :
    ∃ A', RdV w A' k c (vs.take k) ∧ ∀ W, (Instr.slice t (.slice A n c) none (some (.int .i64 z)) none).run P W = .ok (.slice A' k c) W := by
  subst hz
  have hcap := h.cap
  have h0 := (h.drop 0 (by omega)).take k (by omega)
  rw [List.drop_zero, Nat.sub_zero] at h0
  refine ⟨_, h0, fun W => ?_⟩
  have he : P.elem t = e := by simp [Program.elem, ht]
  rw [run_slice_h (P := P) W t A n c (by rw [he]; exact ht) .i64 (k : Int) (by omega) (by omega), size_of_elem t e ht hs W]
  simp [sliced, Result.andThen]
end

set_option maxRecDepth 100000 in
set_option maxHeartbeats 4000000 in
theorem empty_walk (A : Option Addr) (n c : Nat) (ls : List (List UInt8)) (a1 : Int) (w : World) (hgl : Glob w) (hr : RdL w A n c ls) (w1 : (Lit.int .u8 a1).wf = true) :
    Calls Tryd.prog 6 #[.slice A n c, .int .u8 a1] w fun e w' => e = .returned (.bool true) ∧ Kept [] w w' := by
  obtain ⟨x0, x1⟩ := bounds_u8 w1
  have hm := hr.most
  have hcc := hr.cap
  unfold maxLen at hm
  by_cases hn : 30 < n
  · go_enter Tryd.func6, Tryd.ntmps6
    go_wp2_with fail
    refine (wakes_any _ hgl).mono ?_
    rintro e w3 ⟨rfl, hk1⟩
    go_wp2
    go_ret
    exact ⟨rfl, hk1⟩
  · go_enter Tryd.func6, Tryd.ntmps6
    go_wp2_with fail
    refine (wakes_any _ hgl).mono ?_
    rintro e w3 ⟨rfl, hk1⟩
    have hr1 := hr.kept0 hk1
    have hgl1 := hgl.kept0 hk1
    have hlen := hr.len
    have Hlen := Lib.hid hlen
    clear hgl hr w1 hlen
    go_wp2
    go_loopw [15] (fun i wr => ∃ k : Nat, k ≤ n ∧ i = .int .i64 k ∧ wr = w3 ∧ Hid (∀ l ∈ ls.take k, l.length ≤ 300)) (fun i _ => n - (intOf i).toNat)
    case atStart => exact ⟨0, by omega, rfl, rfl, by intro l hl; simp at hl⟩
    case round =>
      obtain ⟨k, hk, rfl, rfl, H⟩ := hrel
      by_cases hlt : k < n
      · obtain ⟨b, off, rfl, hb, hc⟩ := hr1.cells (by omega)
        have hkl : k < ls.length := by have := Hlen.out; omega
        obtain ⟨Aj, nj, cj, c0, hrj⟩ := hc k hkl
        have hjl := hrj.len
        by_cases hbig : 300 < nj
        · clear hc hr1 hrj hjl
          go_wp2
          go_ret
          exact ⟨rfl, hk1⟩
        · have Hn : Hid (∀ l ∈ ls.take (k + 1), l.length ≤ 300) := by
            show ∀ l ∈ ls.take (k + 1), l.length ≤ 300
            intro l hl
            rw [take_step ls k ls[k] (List.getElem?_eq_getElem hkl), List.mem_append] at hl
            rcases hl with hl | hl
            · exact H.out l hl
            · simp at hl
              subst hl
              omega
          clear hc hr1 hrj hjl
          go_wp2
          go_roundw
          case rel => exact ⟨k + 1, by omega, by go_num, trivial, Hn⟩
          case measure => simp [intOf]; omega
      · obtain rfl : n = k := by omega
        have hall : ls.flatten.length < 1099511600000 := by
          have h1 := H.out
          have h2 := Hlen.out
          rw [List.take_of_length_le (by omega)] at h1
          have := flat_le ls 300 h1
          have h3 : ls.length * 300 ≤ 30 * 300 := Nat.mul_le_mul_right _ (by omega)
          omega
        have Hall := Lib.hid hall
        clear hall H hlt hk
        obtain ⟨vs, hv, htx⟩ := hr1.vals
        obtain ⟨j, hj⟩ : ∃ j : Nat, a1 % ((n : Int) + 1) = (j : Int) := ⟨(a1 % ((n : Int) + 1)).toNat, by have := Int.emod_nonneg a1 (show (n : Int) + 1 ≠ 0 by omega); omega⟩
        have hjn : j ≤ n := by have := Int.emod_lt_of_pos a1 (show 0 < (n : Int) + 1 by omega); omega
        obtain ⟨A1, r1, e1⟩ := hv.cutTo (P := Tryd.prog) 29 22 Tryd.underlying29 (by kernel_rfl) j (j : Int) rfl hjn
        obtain ⟨A2, r2, e2⟩ := hv.cutFrom (P := Tryd.prog) 29 22 Tryd.underlying29 (by kernel_rfl) j (j : Int) rfl hjn
        obtain ⟨i0, hi, hz0, hz1, hz2⟩ := info_parts infoB
        go_wp2
        have k1 : Kept [] wr (wr.alloc (.cells #[] 22)).drew := ((Kept.refl [] wr).alloc _).drew
        have k2 : Kept [] wr ((wr.alloc (.cells #[] 22)).alloc (.cells #[.slice none 0 0] 22)).drew := (((Kept.refl [] wr).alloc _).alloc _).drew
        have k3 : Kept [] wr ((wr.alloc (.cells #[.slice none 0 0] 22)).alloc (.cells #[] 22)).drew := (((Kept.refl [] wr).alloc _).alloc _).drew
        have o1 : OwV 22 (wr.alloc (.cells #[] 22)).drew (.slice (some ⟨wr.heap.size, 0, none⟩) 0 0) [] := OwV.empty_at (heap_alloc_new wr _)
        have o2 : OwV 22 ((wr.alloc (.cells #[] 22)).alloc (.cells #[.slice none 0 0] 22)).drew (.slice (some ⟨wr.heap.size, 0, none⟩) 0 0) [] := OwV.empty_at (heap_alloc2_old wr _ _)
        have o3 : OwV 22 ((wr.alloc (.cells #[.slice none 0 0] 22)).alloc (.cells #[] 22)).drew (.slice (some ⟨wr.heap.size + 1, 0, none⟩) 0 0) [] := OwV.empty_at (heap_alloc2_new wr _ _)
        have b2 : ((wr.alloc (.cells #[] 22)).alloc (.cells #[.slice none 0 0] 22)).drew.heap[wr.heap.size + 1]? = some (.cells #[.slice none 0 0] 22) := heap_alloc2_new wr _ _
        have b3 : ((wr.alloc (.cells #[.slice none 0 0] 22)).alloc (.cells #[] 22)).drew.heap[wr.heap.size]? = some (.cells #[.slice none 0 0] 22) := heap_alloc2_old wr _ _
        have K1 := Lib.hid k1
        have K2 := Lib.hid k2
        have K3 := Lib.hid k3
        have O1 := Lib.hid o1
        have O2 := Lib.hid o2
        have O3 := Lib.hid o3
        have B2 := Lib.hid b2
        have B3 := Lib.hid b3
        have hvl : (vs.take j).length = j := by rw [List.length_take]; have := hv.len; omega
        have hvd : (vs.drop j).length = n - j := by rw [List.length_drop]; have := hv.len; omega
        have Hvl := Lib.hid hvl
        have Hvd := Lib.hid hvd
        have Ht1 := Lib.hid (htx.take j).cells
        have Ht2 := Lib.hid (htx.drop j).cells
        clear k1 k2 k3 o1 o2 o3 b2 b3 hvl hvd
        go_region_held3 (fun w' => True) (trivial) (first
          | (refine step_append_vals (by rfl) (.tmp 31) (.tmp 34) 29 (by rfl) 22 i0 _ 24 Tryd.underlying29 hi hz0 hz1 hz2 (by rfl) _ [] (by rfl) O1.out A1 j c (vs.take j) (by rfl) (r1.kept0 K1.out) Ht1.out (by simp [maxLen]; omega) (by simp; omega) ?_; intro v5 w5 ho5 hk5 hm5; obtain ⟨hK5, hb5⟩ := app_new K1.out (by simp [Value.ownBlock]) hk5 hm5; obtain ⟨A5, n5, c5, rfl, hr5, _⟩ := ho5.form)
          | (refine step_append_vals (by rfl) (.tmp 31) (.tmp 34) 29 (by rfl) 22 i0 _ 24 Tryd.underlying29 hi hz0 hz1 hz2 (by rfl) _ [] (by rfl) O2.out A1 j c (vs.take j) (by rfl) (r1.kept0 K2.out) Ht1.out (by simp [maxLen]; omega) (by simp; omega) ?_; intro v5 w5 ho5 hk5 hm5; obtain ⟨hK5, hb5⟩ := app_new K2.out (by simp [Value.ownBlock]) hk5 hm5; obtain ⟨A5, n5, c5, rfl, hr5, _⟩ := ho5.form; have hN5 := (hk5.block (wr.heap.size + 1) (by simp) (by simp [Value.ownBlock])).trans B2.out)
          | (refine step_append_vals (by rfl) (.tmp 31) (.tmp 34) 29 (by rfl) 22 i0 _ 24 Tryd.underlying29 hi hz0 hz1 hz2 (by rfl) _ [] (by rfl) O3.out A1 j c (vs.take j) (by rfl) (r1.kept0 K3.out) Ht1.out (by simp [maxLen]; omega) (by simp; omega) ?_; intro v5 w5 ho5 hk5 hm5; obtain ⟨hK5, hb5⟩ := app_new K3.out (by simp [Value.ownBlock]) hk5 hm5; obtain ⟨A5, n5, c5, rfl, hr5, _⟩ := ho5.form; have hN5 := (hk5.block wr.heap.size (by simp; omega) (by simp [Value.ownBlock])).trans B3.out)
          | (refine step_append_vals (by rfl) (.tmp 35) (.tmp 36) 29 (by rfl) 22 i0 _ 24 Tryd.underlying29 hi hz0 hz1 hz2 (by rfl) _ ([] ++ vs.take j) (by rfl) ho5 _ 1 1 [.slice none 0 0] (by rfl) (RdV.one_at hN5) (by simp [Value.oneCell']) (by rw [List.nil_append, Hvl.out]; simp only [maxLen]; omega) (by rw [List.nil_append, Hvl.out]; omega) ?_; intro v6 w6 ho6 hk6 hm6; obtain ⟨hK6, hb6⟩ := app_new hK5 hb5 hk6 hm6; obtain ⟨A6, n6, c6, rfl, hr6, _⟩ := ho6.form)
          | (refine step_append_vals (by rfl) (.tmp 35) (.tmp 36) 29 (by rfl) 22 i0 _ 24 Tryd.underlying29 hi hz0 hz1 hz2 (by rfl) _ ([] ++ vs.take j) (by rfl) (ho5.alloc _) _ 1 1 [.slice none 0 0] (by rfl) (RdV.one w5 _ _) (by simp [Value.oneCell']) (by rw [List.nil_append, Hvl.out]; simp only [maxLen]; omega) (by rw [List.nil_append, Hvl.out]; omega) ?_; intro v6 w6 ho6 hk6 hm6; obtain ⟨hK6, hb6⟩ := app_new (hK5.alloc _) hb5 hk6 hm6; obtain ⟨A6, n6, c6, rfl, hr6, _⟩ := ho6.form)
          | (refine step_append_vals (by rfl) (.tmp 37) (.tmp 40) 29 (by rfl) 22 i0 _ 24 Tryd.underlying29 hi hz0 hz1 hz2 (by rfl) _ ([] ++ vs.take j ++ [.slice none 0 0]) (by rfl) ho6 A2 (n - j) (c - j) (vs.drop j) (by rfl) (r2.kept0 hK6) Ht2.out (by simp only [List.nil_append, List.length_append, Hvl.out, List.length_singleton, maxLen]; omega) (by simp only [List.nil_append, List.length_append, Hvl.out, List.length_singleton]; omega) ?_; intro v7 w7 ho7 hk7 hm7; obtain ⟨hK7, hb7⟩ := app_new hK6 hb6 hk7 hm7; obtain ⟨A7, n7, c7, rfl, hr7, _⟩ := ho7.form))
        all_goals have hL7 : RdL w7 A7 n7 c7 (ls.take j ++ [[]] ++ ls.drop j) := (by
          refine RdL.of_vals hr7 ?_
          rw [List.nil_append]
          exact (((htx.take j).append (TxtVs.one ⟨none, 0, 0, rfl, RdB.nil wr⟩)).append (htx.drop j)).kept0 hK7)
        all_goals have hfl : (ls.take j ++ [[]] ++ ls.drop j).flatten = ls.flatten := (by
          rw [List.flatten_append, List.flatten_append]
          have : ([[]] : List (List UInt8)).flatten = [] := rfl
          rw [this, List.append_nil, ← List.flatten_append, List.take_append_drop])
        all_goals have Hfl := Lib.hid hfl
        all_goals have hrl := hr1.kept0 hK7
        all_goals have hg7 := hgl1.kept0 hK7
        all_goals have hKw := hk1.andThen hK7
        all_goals clear hfl K1 K2 K3 O1 O2 O3 B2 B3 Ht1 Ht2 Hvl Hvd hk5 hm5 hK5 hb5 hr5 ho5 hk6 hm6 hK6 hb6 hr6 ho6 hk7 hm7 hK7 hb7 hr7 ho7 r1 r2 e1 e2 hv htx hr1 hgl1 hk1
        all_goals try clear hN5
        all_goals go_wp2_with fail
        all_goals refine (sums_any A7 n7 c7 _ _ hL7 hg7 (by rw [Hfl.out]; exact Hall.out)).mono ?_
        all_goals rw [Hfl.out]
        all_goals rintro e w8 ⟨rfl, hk8⟩
        all_goals go_wp2_with fail
        all_goals refine (sums_any A n c ls _ (hrl.kept0 hk8) (hg7.kept0 hk8) Hall.out).mono ?_
        all_goals rintro e w9 ⟨rfl, hk9⟩
        all_goals have hg := fun W x y => run_eqGuard_agg (P := Tryd.prog) W .eql 25 x y (bvs (shaSum ls.flatten)).toArray (bvs (shaSum ls.flatten)).toArray (by kernel_rfl)
        all_goals have heq := fun W => run_equalIn_key (shaSum ls.flatten) (shaSum_length _) W
        all_goals go_wp2_with fail
        all_goals refine (sums_any none 0 0 [] _ (RdL.nil _) ((hg7.kept0 hk8).kept0 hk9) (by simp)).mono ?_
        all_goals rw [show ([] : List (List UInt8)).flatten = [] from rfl]
        all_goals rintro e w10 ⟨rfl, hk10⟩
        all_goals go_wp2_with fail
        all_goals refine (sum_any none 0 0 [] _ (RdB.nil _) (((hg7.kept0 hk8).kept0 hk9).kept0 hk10) (by simp)).mono ?_
        all_goals rintro e w11 ⟨rfl, hk11⟩
        all_goals have hgn := fun W x y => run_eqGuard_agg (P := Tryd.prog) W .eql 25 x y (bvs (shaSum [])).toArray (bvs (shaSum [])).toArray (by kernel_rfl)
        all_goals have heqn := fun W => run_equalIn_key (shaSum []) (shaSum_length _) W
        all_goals go_wp2
        all_goals go_ret
        all_goals exact ⟨rfl, (((hKw.andThen hk8).andThen hk9).andThen hk10).andThen hk11⟩
end Go.Proofs.YtbfcafjceanghaaDoor
