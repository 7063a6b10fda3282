/-
  Walks of what layer 9's laws ask first: the fixed fact, a small code. No statement of the seed is proved here.
-/
import Derived.Test.YtpnpimhfakfolaaRs6
import Derived.Test.YtpnpimhfakfolaaR96
import Derived.Test.YtpnpimhfakfolaaPa
import Derived.Deep.RegionHeld3
namespace Go.Proofs.Ytpnpimhfakfolaa
open Go.RowKit
set_option linter.unusedVariables false

/-- Pieces of slices lead back to them. -/
theorem back_pieces {k N : Nat} {sel : Nat → Nat} {V x s : Nat → Nat → GB} (hV : BackP k sel V) (hx : ∀ t, t < k → ∀ c, c < N → x t c = mm k (rsr k) s (sel t) c) : ∀ i, i < k → ∀ c, c < N → mm k V x i c = s i c := by
  intro i hi c hc
  rw [mm_congr (a' := V) (b' := mm k (fun t j => rsr k (sel t) j) s) (fun _ _ => rfl) (fun t ht => by rw [hx t ht c hc]; rfl), ← mm_assoc, mm_congr (a' := un) (b' := s) (fun j hj => hV i hi j hj) (fun _ _ => rfl), mm_un_left s hi]
theorem back_exists {k n : Nat} (hk : k ≤ n) (hn : n ≤ 255) {sel : Nat → Nat} (hs : ∀ t, t < k → sel t < n) (hd : ∀ t, t < k → ∀ u, u < k → t ≠ u → sel t ≠ sel u) : ∃ V, BackP k sel V := (rsr_indep hk (by omega) sel hs hd).inv_exists
theorem RdI.two (w : World) (a b : Int) (f : Nat → Int) (h0 : f 0 = a) (h1 : f 1 = b) : RdI (w.alloc (.cells #[.int .i64 a, .int .i64 b] 3)) (some ⟨w.heap.size, 0, none⟩) 2 2 f := by
  subst h0 h1
  refine ⟨rm_length _ _, Nat.le_refl _, by simp [maxLen], fun _ => ⟨w.heap.size, 0, rfl, fun j hj => ?_⟩⟩
  rw [rm_length] at hj
  rw [cell_of_row _ _ _ _ _ _ (heap_alloc_new w _)]
  have : j = 0 ∨ j = 1 := by omega
  rcases this with rfl | rfl <;> rfl

theorem heapsize_alloc9 (w : World) (o : Obj) : (w.alloc o).heap.size = w.heap.size + 1 := by simp
def Rt9 (K N : Int) : Prop := 1 ≤ K ∧ K ≤ N ∧ N ≤ 255
def CodeRet (K N : Int) (w : World) (e : Ending) (w' : World) : Prop := Kept [] w w' ∧
  ((Hid (¬ Rt9 K N) ∧ e = .returned (.tuple #[.pointer none, .int .i64 14, .bool true])) ∨
   (e = .returned (.tuple #[.pointer none, .int .i64 0, .bool false])) ∨
   ∃ (k n q p : Nat) (A : Option Addr) (c : Nat), K = (k : Int) ∧ N = (n : Int) ∧ 1 ≤ k ∧ k ≤ n ∧ k ≤ 8 ∧ n ≤ 24 ∧ e = .returned (.tuple #[.pointer (some ⟨q, 0, none⟩), .int .i64 0, .bool true]) ∧ Hid (CodeAt w' q n k p A c))
set_option maxHeartbeats 2000000 in
theorem code9_any (K N : Int) (w : World) : Calls Try.prog 10 #[.agg #[.int .i64 K, .int .i64 N]] w (CodeRet K N w) := by
  have HB := Lib.hid (Blk.new w 23 [.int .i64 K, .int .i64 N])
  have HK0 := Lib.hid ((Kept.refl [] w).alloc (.cells #[.int .i64 K, .int .i64 N] 23))
  by_cases hR : Rt9 K N
  · obtain ⟨hR1, hR2, hR3⟩ := hR
    by_cases hS : K ≤ 8 ∧ N ≤ 24
    · obtain ⟨hS1, hS2⟩ := hS
      obtain ⟨k, rfl⟩ : ∃ k : Nat, K = (k : Int) := ⟨K.toNat, by omega⟩
      obtain ⟨n, rfl⟩ : ∃ n : Nat, N = (n : Int) := ⟨N.toNat, by omega⟩
      go_enter Try.func10, Try.ntmps10
      go_wp2_with fail
      refine (rightD9_yes _ _ _ ⟨hR1, hR2, hR3⟩).mono ?_
      rintro e w1 ⟨rfl, hw1⟩
      have d0 : w1.cell? ⟨w.heap.size, 0, none⟩ = some (.int .i64 (k : Int)) := by rw [hw1]; exact HB.out.cell 0
      have d1 : w1.cell? ⟨w.heap.size, 1, none⟩ = some (.int .i64 (n : Int)) := by rw [hw1]; exact HB.out.cell 1
      have hdl : w.heap.size < w1.heap.size := by rw [hw1]; exact HB.out.lt
      have HK1 : Hid (Kept [] w w1) := Lib.hid (by rw [hw1]; exact HK0.out)
      obtain ⟨d, hd⟩ : ∃ d, d = w.heap.size := ⟨_, rfl⟩
      rw [← hd] at d0 d1 hdl ⊢
      clear hw1 hd HB HK0
      have SK : Hid (∀ W, Kept [] w1 W → W.cell? ⟨d, 0, none⟩ = some (.int .i64 (k : Int)) ∧ W.cell? ⟨d, 1, none⟩ = some (.int .i64 (n : Int))) := Lib.hid (fun W hW => ⟨(hW.cell (p := ⟨d, 0, none⟩) hdl (by simp)).trans d0, (hW.cell (p := ⟨d, 1, none⟩) hdl (by simp)).trans d1⟩)
      have hKc : Kept [] w1 w1.drew := (Kept.refl [] w1).drew
      go_wp2_with fail
      clear d0 d1
      go_region_held3 (fun w' => w'.cell? ⟨d, 0, none⟩ = some (.int .i64 (k : Int)) ∧ w'.cell? ⟨d, 1, none⟩ = some (.int .i64 (n : Int)))
        (first
          | exact SK.out _ hKc
          | exact SK.out _ (Kept.refl [] w1).drew
          | exact SK.out _ (Kept.refl [] w1))
        (first
          | (go_at_call 26; refine (make7_any _).mono ?_; rintro e w5 ⟨p, rfl, hT5, hp5, hk5⟩; have hKc := hKc.andThen hk5)
          | (go_at_call 25; refine (new9_any p n k _ _ _ hT5 rfl rfl (by omega) (by omega) (by omega)).mono ?_; rintro e w6 ⟨q, A, c, rfl, hC6, hk6⟩; have hKc := hKc.andThen hk6))
      have HC6 := Lib.hid hC6
      have HKf := Lib.hid (HK1.out.andThen hKc)
      clear hC6 hT5
      go_wp2
      go_ret3
      exact ⟨HKf.out, .inr (.inr ⟨k, n, q, p, A, c, rfl, rfl, by omega, by omega, by omega, by omega, rfl, HC6⟩)⟩
    · have hS' : 8 < K ∨ (K ≤ 8 ∧ 24 < N) := by omega
      clear hS
      rcases hS' with hS | ⟨hS, hS2⟩
      all_goals
        go_enter Try.func10, Try.ntmps10
        go_wp2_with fail
        refine (rightD9_yes _ _ _ ⟨hR1, hR2, hR3⟩).mono ?_
        rintro e w1 ⟨rfl, hw1⟩
        have d0 : w1.cell? ⟨w.heap.size, 0, none⟩ = some (.int .i64 K) := by rw [hw1]; exact HB.out.cell 0
        have d1 : w1.cell? ⟨w.heap.size, 1, none⟩ = some (.int .i64 N) := by rw [hw1]; exact HB.out.cell 1
        have HK1 : Hid (Kept [] w w1) := Lib.hid (by rw [hw1]; exact HK0.out)
        clear hw1 HB HK0
        go_wp2
        go_ret3
        exact ⟨HK1.out, .inr (.inl rfl)⟩
  · have HR := Lib.hid hR
    have hR' : K < 1 ∨ (1 ≤ K ∧ N < K) ∨ (1 ≤ K ∧ K ≤ N ∧ 255 < N) := by unfold Rt9 at hR; omega
    clear hR
    go_enter Try.func10, Try.ntmps10
    go_wp2_with fail
    refine (rightD9_no _ _ _ hR').mono ?_
    rintro e w1 ⟨rfl, hw1⟩
    have d0 : w1.cell? ⟨w.heap.size, 0, none⟩ = some (.int .i64 K) := by rw [hw1]; exact HB.out.cell 0
    have d1 : w1.cell? ⟨w.heap.size, 1, none⟩ = some (.int .i64 N) := by rw [hw1]; exact HB.out.cell 1
    have hdl : w.heap.size < w1.heap.size := by rw [hw1]; exact HB.out.lt
    have HK1 : Hid (Kept [] w w1) := Lib.hid (by rw [hw1]; exact HK0.out)
    obtain ⟨d, hd⟩ : ∃ d, d = w.heap.size := ⟨_, rfl⟩
    rw [← hd] at d0 d1 hdl ⊢
    clear hw1 hd HB HK0
    have SK : Hid (∀ W, Kept [] w1 W → W.cell? ⟨d, 0, none⟩ = some (.int .i64 K) ∧ W.cell? ⟨d, 1, none⟩ = some (.int .i64 N)) := Lib.hid (fun W hW => ⟨(hW.cell (p := ⟨d, 0, none⟩) hdl (by simp)).trans d0, (hW.cell (p := ⟨d, 1, none⟩) hdl (by simp)).trans d1⟩)
    have HRR := Lib.hid hR'
    clear hR'
    have hKc : Kept [] w1 w1.drew := (Kept.refl [] w1).drew
    go_wp2_with fail
    clear d0 d1
    go_region_held3 (fun w' => w'.cell? ⟨d, 0, none⟩ = some (.int .i64 K) ∧ w'.cell? ⟨d, 1, none⟩ = some (.int .i64 N))
      (first
        | exact SK.out _ hKc
        | exact SK.out _ (Kept.refl [] w1).drew
        | exact SK.out _ (Kept.refl [] w1))
      (first
        | (go_at_call 26; refine (make7_any _).mono ?_; rintro e w5 ⟨p, rfl, hT5, hp5, hk5⟩; have hKc := hKc.andThen hk5)
        | (go_at_call 25; refine (new9_arg p _ _ _ HRR.out).mono ?_; rintro e w6 ⟨rfl, rfl⟩))
    have HKf := Lib.hid (HK1.out.andThen hKc)
    clear hT5
    go_wp2
    go_ret3
    exact ⟨HKf.out, .inl ⟨HR, rfl⟩⟩

/-- The example's slices. -/
def exS (i c : Nat) : GB := ⟨UInt8.ofNat (i + 1)⟩
theorem exS_rows : ofm 2 1 exS = [[1], [2]] := by decide +kernel
/-- The numbers that the example hands in. -/
def exL (t : Nat) : Nat := if t = 0 then 2 else 0
theorem exL_unl : unlP 3 2 (fun t => (exL t : Int)) := by
  intro i hi
  have : i = 0 ∨ i = 1 := by omega
  rcases this with rfl | rfl
  · exact ⟨by decide, fun j hj => by omega⟩
  · exact ⟨by decide, fun j hj => by obtain rfl : j = 0 := by omega
                                     decide⟩
set_option maxRecDepth 100000 in
set_option maxHeartbeats 2000000 in
theorem wakes9_any (w : World) : Calls Try.prog 9 #[] w fun e w' => e = .returned (.bool true) ∧ Kept [] w w' := by
  go_enter Try.func9, Try.ntmps9
  go_wp2_with fail
  refine (make7_any _).mono ?_
  rintro e w2 ⟨p, rfl, hT, hp, hk2⟩
  have HT2 := Lib.hid hT
  have HK2 := Lib.hid hk2
  clear hT hp hk2
  go_wp2_with fail
  refine (new9_any p 3 2 _ _ _ HT2.out rfl rfl (by omega) (by omega) (by omega)).mono ?_
  rintro e w3 ⟨q, A, c, rfl, hC, hk3⟩
  have HC3 := Lib.hid hC
  have HK3 := Lib.hid (HK2.out.andThen hk3)
  clear hC hk3 HK2 HT2
  go_wp2_with fail
  have h1 := RdB.one w3 5 1 1 rfl
  have h2 := RdB.one (w3.alloc (.cells #[.int .u8 1] 5)) 5 2 2 rfl
  have h3 := RdL.two 38 (h1.alloc (.cells #[.int .u8 2] 5)) h2
  simp only [heapsize_alloc9] at h3
  have hk4 : Kept [] w3 (((w3.alloc (.cells #[.int .u8 1] 5)).alloc (.cells #[.int .u8 2] 5)).alloc (.cells #[.slice (some ⟨w3.heap.size, 0, none⟩) 1 1, .slice (some ⟨w3.heap.size + 1, 0, none⟩) 1 1] 38)) := (((Kept.refl [] w3).alloc _).alloc _).alloc _
  generalize ((w3.alloc (.cells #[.int .u8 1] 5)).alloc (.cells #[.int .u8 2] 5)).alloc (.cells #[.slice (some ⟨w3.heap.size, 0, none⟩) 1 1, .slice (some ⟨w3.heap.size + 1, 0, none⟩) 1 1] 38) = w4 at *
  rw [← exS_rows] at h3
  refine (encode9_any q 3 2 p A c _ 2 2 1 exS _ (HC3.out.kept0 hk4) h3 (by omega)).mono ?_
  rintro e w5 ⟨A5, n5, c5, rfl, hr5, hk5⟩
  obtain rfl : 3 = n5 := by have := hr5.len; unfold pcs at this; rw [ofm_length] at this; exact this
  obtain ⟨b, o, Az, nz, cz, lz, rfl, hb, d0, g0, r0⟩ := hr5.at_ (k := 0) (by omega)
  obtain ⟨b', o', Ay, ny, cy, ly, e0, _, d2, g2, r2⟩ := hr5.at_ (k := 2) (by omega)
  injection e0 with e0
  injection e0 with e1 e2
  subst e1 e2
  unfold pcs at g0 g2
  rw [ofm_get (by omega)] at g0 g2
  obtain rfl := Option.some.inj g0
  obtain rfl := Option.some.inj g2
  have v1 := hr5.cap
  have v2 := hr5.most
  unfold maxLen at v2
  obtain rfl : 1 = nz := by have := r0.len; rw [rm_length] at this; exact this
  obtain rfl : 1 = ny := by have := r2.len; rw [rm_length] at this; exact this
  rw [Nat.add_zero] at d0
  have HC5 := Lib.hid ((HC3.out.kept0 hk4).kept0 hk5)
  have HK5 := Lib.hid ((HK3.out.andThen hk4).andThen hk5)
  have R0 := Lib.hid r0
  have R2 := Lib.hid r2
  obtain ⟨V, hV⟩ := back_exists (k := 2) (n := 3) (sel := exL) (by omega) (by omega) (fun t _ => by unfold exL; split <;> omega) (fun t ht u hu hne => by unfold exL; split <;> split <;> omega)
  have DW : Hid (∀ W B1 B2, Kept [] w5 W → RdI W (some ⟨B1, 0, none⟩) 2 2 (fun t => (exL t : Int)) → RdL W (some ⟨B2, 0, none⟩) 2 2 [rm 1 (fun c => (mm 2 (rsr 2) exS 2 c).v), rm 1 (fun c => (mm 2 (rsr 2) exS 0 c).v)] →
      Calls Try.prog 21 #[.pointer (some ⟨q, 0, none⟩), .slice (some ⟨B1, 0, none⟩) 2 2, .slice (some ⟨B2, 0, none⟩) 2 2] W fun e w' => ∃ A n c, e = .returned (.tuple #[.slice A n c, .int .i64 0]) ∧ RdL w' A n c (ofm 2 1 exS) ∧ Kept [] w5 w') := Lib.hid (fun W B1 B2 hW h1 h2 => by
    have e : [rm 1 (fun c => (mm 2 (rsr 2) exS 2 c).v), rm 1 (fun c => (mm 2 (rsr 2) exS 0 c).v)] = ofm 2 1 (fun t c => mm 2 (rsr 2) exS (exL t) c) := rfl
    rw [e] at h2
    refine (decode9_any q 3 2 p A c _ 2 2 _ exL V _ 2 1 _ W (HC5.out.kept0 hW) h1 h2 (by omega) exL_unl (by omega) (fun t _ => ⟨rfl, by unfold exL; split <;> omega⟩) hV).mono ?_
    rintro e w' ⟨A', n', c', rfl, hr, hk⟩
    rw [ofm_congr (back_pieces hV fun t _ c _ => rfl)] at hr
    exact ⟨A', n', c', rfl, hr, hW.andThen hk⟩)
  have LA : Hid (∀ W0 B1 B2, Kept [] w5 W0 → B1 = W0.heap.size → B2 = W0.heap.size + 1 →
      Calls Try.prog 21 #[.pointer (some ⟨q, 0, none⟩), .slice (some ⟨B1, 0, none⟩) 2 2, .slice (some ⟨B2, 0, none⟩) 2 2] ((W0.alloc (.cells #[.int .i64 2, .int .i64 0] 3)).alloc (.cells #[.slice Ay 1 cy, .slice Az 1 cz] 38)) fun e w' => ∃ A n c, e = .returned (.tuple #[.slice A n c, .int .i64 0]) ∧ RdL w' A n c (ofm 2 1 exS) ∧ Kept [] w5 w') := Lib.hid (fun W0 B1 B2 hW e1 e2 => by
    subst e1
    have hL := RdL.two 38 ((R2.out.kept0 hW).alloc (.cells #[.int .i64 2, .int .i64 0] 3)) ((R0.out.kept0 hW).alloc (.cells #[.int .i64 2, .int .i64 0] 3))
    rw [heapsize_alloc9, ← e2] at hL
    exact DW.out _ _ _ ((hW.alloc _).alloc _) ((RdI.two W0 2 0 _ rfl rfl).kept0 ((Kept.refl [] _).alloc _)) hL)
  have LB : Hid (∀ W0 B1 B2, Kept [] w5 W0 → B2 = W0.heap.size → B1 = W0.heap.size + 1 →
      Calls Try.prog 21 #[.pointer (some ⟨q, 0, none⟩), .slice (some ⟨B1, 0, none⟩) 2 2, .slice (some ⟨B2, 0, none⟩) 2 2] ((W0.alloc (.cells #[.slice Ay 1 cy, .slice Az 1 cz] 38)).alloc (.cells #[.int .i64 2, .int .i64 0] 3)) fun e w' => ∃ A n c, e = .returned (.tuple #[.slice A n c, .int .i64 0]) ∧ RdL w' A n c (ofm 2 1 exS) ∧ Kept [] w5 w') := Lib.hid (fun W0 B1 B2 hW e1 e2 => by
    subst e1
    have hL := RdI.two (W0.alloc (.cells #[.slice Ay 1 cy, .slice Az 1 cz] 38)) 2 0 (fun t => (exL t : Int)) rfl rfl
    rw [heapsize_alloc9, ← e2] at hL
    exact DW.out _ _ _ ((hW.alloc _).alloc _) hL ((RdL.two 38 (R2.out.kept0 hW) (R0.out.kept0 hW)).kept0 ((Kept.refl [] _).alloc _)))
  have SK : Hid (∀ W, Kept [] w5 W → W.cell? ⟨b, o, none⟩ = some (.slice Az 1 cz) ∧ W.cell? ⟨b, o + 2, none⟩ = some (.slice Ay 1 cy)) := Lib.hid (fun W hW => ⟨(hW.cell (p := ⟨b, o, none⟩) hb (by simp)).trans d0, (hW.cell (p := ⟨b, o + 2, none⟩) hb (by simp)).trans d2⟩)
  have hKc : Kept [] w5 w5.drew := (Kept.refl [] w5).drew
  clear h1 h2 h3 hk4 hr5 hk5 r0 r2 hV DW R0 R2 HC3 HK3 HC5 hb
  go_wp2_with fail
  clear d0 d2
  go_region_held3 (fun w' => w'.cell? ⟨b, o, none⟩ = some (.slice Az 1 cz) ∧ w'.cell? ⟨b, o + 2, none⟩ = some (.slice Ay 1 cy))
    (first
      | exact SK.out _ hKc
      | exact SK.out _ (Kept.refl [] w5).drew
      | exact SK.out _ (Kept.refl [] w5)
      | exact SK.out _ (hKc.alloc _)
      | exact SK.out _ ((hKc.alloc _).alloc _))
    (first
      | (go_at_call 21; refine (LA.out _ _ _ (Kept.refl [] w5).drew (by simp) (by simp)).mono ?_; rintro e w6 ⟨A6, n6, c6, rfl, hr6, hk6⟩; have hKc := hk6)
      | (go_at_call 21; refine (LB.out _ _ _ (Kept.refl [] w5).drew (by simp) (by simp)).mono ?_; rintro e w6 ⟨A6, n6, c6, rfl, hr6, hk6⟩; have hKc := hk6))
  all_goals have HK6 := Lib.hid (HK5.out.andThen hk6)
  all_goals obtain rfl : 2 = n6 := by have := hr6.len; rw [ofm_length] at this; exact this
  all_goals obtain ⟨bb, oo, Ax, nx, cx, lx, rfl, hbb, f0, g0, r0⟩ := hr6.at_ (k := 1) (by omega)
  all_goals rw [ofm_get (by omega)] at g0
  all_goals obtain rfl := Option.some.inj g0
  all_goals obtain rfl : 1 = nx := by have := r0.len; rw [rm_length] at this; exact this
  all_goals have w1 := hr6.cap
  all_goals have w2 := hr6.most
  all_goals unfold maxLen at w2
  all_goals have HS := Lib.hid (same_yes Ax (some ⟨w6.heap.size, 0, none⟩) 1 cx 1 [2] _ (r0.alloc (.cells #[.int .u8 2] 5)) (RdB.one w6 5 2 2 rfl))
  all_goals clear LA LB SK hKc hk6 hr6 r0 hbb HK5
  all_goals go_wp2_with fail
  all_goals refine HS.out.mono ?_
  all_goals rintro e w7 ⟨rfl, mm7, rfl⟩
  all_goals go_wp2
  all_goals go_ret
  all_goals exact ⟨rfl, (HK6.out.alloc _).drewN _⟩
end Go.Proofs.Ytpnpimhfakfolaa
