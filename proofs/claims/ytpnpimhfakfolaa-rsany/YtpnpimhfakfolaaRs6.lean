/-
  Contracts of layer 9 (rs), going on: Decode, Again. No statement of the seed is proved here.
-/
import Derived.Test.YtpnpimhfakfolaaRs5
import Derived.Test.YtpnpimhfakfolaaM89
import Derived.Test.YtpnpimhfakfolaaPa
namespace Go.Proofs.Ytpnpimhfakfolaa
open Go.RowKit
set_option linter.unusedVariables false

theorem decode9_nil (A : Option Addr) (n c : Nat) (A' : Option Addr) (n' c' : Nat) (w : World) : Calls Try.prog 21 #[.pointer none, .slice A n c, .slice A' n' c'] w fun e w' => e = .returned (.tuple #[.slice none 0 0, .int .i64 15]) ∧ w' = w := by
  go_enter Try.func21, Try.ntmps21
  go_wp2
  go_ret2
  exact ⟨rfl, rfl⟩
theorem decode9_err (q m c n' c' : Nat) (A A' : Option Addr) (E : Int) (w : World) (hb : Calls Try.prog 35 #[.pointer (some ⟨q, 0, none⟩), .slice A m c, .slice A' n' c'] w (LRet2 [] E w)) (hE : E ≠ 0) :
    Calls Try.prog 21 #[.pointer (some ⟨q, 0, none⟩), .slice A m c, .slice A' n' c'] w (LRet2 [] E w) := by
  have HB := Lib.hid hb
  have he : (E != 0) = true := by simpa using hE
  clear hb
  go_enter Try.func21, Try.ntmps21
  go_wp2_with fail
  refine HB.out.mono ?_
  rintro e w' ⟨A2, n2, c2, rfl, hr, hk⟩
  go_wp2
  go_ret2
  exact ⟨none, 0, 0, rfl, RdL.nil _, hk⟩
set_option maxHeartbeats 1000000 in
theorem decode9_any (q n k p : Nat) (A : Option Addr) (c : Nat) (A1 : Option Addr) (m c1 : Nat) (f : Nat → Int) (sel : Nat → Nat) (V : Nat → Nat → GB) (A2 : Option Addr) (c2 N : Nat) (x : Nat → Nat → GB) (w : World) (hc : CodeAt w q n k p A c) (h1 : RdI w A1 m c1 f) (hl : RdL w A2 m c2 (ofm m N x)) (hN : N ≤ 1000000) (h : unlP n m f) (hm : k ≤ m)
    (hf : ∀ t, t < m → f t = (sel t : Int) ∧ sel t < n) (hV : BackP k sel V) :
    Calls Try.prog 21 #[.pointer (some ⟨q, 0, none⟩), .slice A1 m c1, .slice A2 m c2] w (LRet2 (ofm k N (mm k V x)) 0 w) := by
  have HB := Lib.hid (back9_any q n k p A c A1 m c1 f sel V A2 c2 _ w hc h1 hl (one1_ofm _ _ _) h hm hf hV)
  have HC := Lib.hid hc
  have b1 := hl.cap
  have b2 := hl.most
  unfold maxLen at b2
  have hl2 := hl.first k hm
  rw [ofm_take hm] at hl2
  have HL := Lib.hid hl2
  have k1 := hc.k1
  have k2 := hc.kn
  have k3 := hc.n255
  have hcut := fun W => run_cut_first (P := Try.prog) 24 38 Try.underlying24 sizeLb A2 m c2 k (k : Int) rfl (by omega) W
  have p1 : (0 : Int) ≤ (k : Int) := by omega
  have p2 : (k : Int) ≤ (m : Int) := by omega
  have p3 : (k : Int) ≤ (c2 : Int) := by omega
  clear hc h1 hl h hf hV hl2
  go_enter Try.func21, Try.ntmps21
  go_wp2_with fail
  refine HB.out.mono ?_
  rintro e w3 ⟨A3, n3, c3, rfl, hr3, hk3⟩
  obtain rfl : k = n3 := by have := hr3.len; rw [ofm_length] at this; exact this
  have hC3 := HC.out.kept0 hk3
  have d3 := hC3.cnt
  have HS := Lib.hid (sums9_any q n k p A c A3 k c3 V A2 k c2 N x w3 hC3 hr3 (HL.out.kept0 hk3) hN (by omega))
  have HK := Lib.hid hk3
  clear hr3 hC3 hk3 HC HL
  go_wp2_with fail
  refine HS.out.mono ?_
  rintro e w4 ⟨A4, n4, c4, rfl, hr4, hk4⟩
  go_wp2
  go_ret2
  exact ⟨A4, n4, c4, rfl, hr4, HK.out.andThen hk4⟩

theorem again9_nil (A : Option Addr) (n c : Nat) (A' : Option Addr) (n' c' : Nat) (z : Int) (w : World) : Calls Try.prog 23 #[.pointer none, .slice A n c, .slice A' n' c', .int .i64 z] w fun e w' => e = .returned (.tuple #[.slice none 0 0, .int .i64 15]) ∧ w' = w := by
  go_enter Try.func23, Try.ntmps23
  go_wp2
  go_ret2
  exact ⟨rfl, rfl⟩
theorem again9_range (q n k p : Nat) (A : Option Addr) (c : Nat) (A1 : Option Addr) (m c1 : Nat) (A2 : Option Addr) (n2 c2 : Nat) (z : Int) (w : World) (hc : CodeAt w q n k p A c) (h : z < 0 ∨ (0 ≤ z ∧ (n : Int) ≤ z)) :
    Calls Try.prog 23 #[.pointer (some ⟨q, 0, none⟩), .slice A1 m c1, .slice A2 n2 c2, .int .i64 z] w (SumRet [] 3 w) := by
  have d1 := hc.rows
  clear hc
  go_enter Try.func23, Try.ntmps23
  go_wp2_with fail
  refine (has9_no _ _ _ _ _ h).mono ?_
  rintro e w' ⟨rfl, rfl⟩
  go_wp2
  go_ret2
  exact ⟨none, 0, 0, rfl, RdB.nil _, Kept.refl _ _⟩
theorem again9_err (q n k p : Nat) (A : Option Addr) (c : Nat) (A1 : Option Addr) (m c1 : Nat) (A2 : Option Addr) (n2 c2 i : Nat) (z E : Int) (w : World) (hc : CodeAt w q n k p A c) (hz : z = (i : Int)) (hi : i < n) (hb : Calls Try.prog 35 #[.pointer (some ⟨q, 0, none⟩), .slice A1 m c1, .slice A2 n2 c2] w (LRet2 [] E w)) (hE : E ≠ 0) :
    Calls Try.prog 23 #[.pointer (some ⟨q, 0, none⟩), .slice A1 m c1, .slice A2 n2 c2, .int .i64 z] w (SumRet [] E w) := by
  subst hz
  have HB := Lib.hid hb
  have he : (E != 0) = true := by simpa using hE
  have d1 := hc.rows
  clear hb hc
  go_enter Try.func23, Try.ntmps23
  go_wp2_with fail
  refine (has9_yes _ _ _ i _ _ rfl hi).mono ?_
  rintro e w' ⟨rfl, rfl⟩
  go_wp2_with fail
  refine HB.out.mono ?_
  rintro e w' ⟨A2, n2, c2, rfl, hr, hk⟩
  go_wp2
  go_ret2
  exact ⟨none, 0, 0, rfl, RdB.nil _, hk⟩
set_option maxRecDepth 100000 in
set_option maxHeartbeats 2000000 in
theorem again9_any (q n k p : Nat) (A : Option Addr) (c : Nat) (A1 : Option Addr) (m c1 : Nat) (f : Nat → Int) (sel : Nat → Nat) (V : Nat → Nat → GB) (A2 : Option Addr) (c2 N : Nat) (x : Nat → Nat → GB) (i : Nat) (z : Int) (w : World) (hc : CodeAt w q n k p A c) (hz : z = (i : Int)) (hi : i < n) (h1 : RdI w A1 m c1 f) (hl : RdL w A2 m c2 (ofm m N x)) (hN : N ≤ 1000000) (h : unlP n m f) (hm : k ≤ m)
    (hf : ∀ t, t < m → f t = (sel t : Int) ∧ sel t < n) (hV : BackP k sel V) :
    Calls Try.prog 23 #[.pointer (some ⟨q, 0, none⟩), .slice A1 m c1, .slice A2 m c2, .int .i64 z] w (SumRet (rm N fun c => (mm k (rsr k) (mm k V x) i c).v) 0 w) := by
  subst hz
  have HB := Lib.hid (back9_any q n k p A c A1 m c1 f sel V A2 c2 _ w hc h1 hl (one1_ofm _ _ _) h hm hf hV)
  have HC := Lib.hid hc
  have d1 := hc.rows
  have b1 := hl.cap
  have b2 := hl.most
  have b3 := hc.mat.cap
  have b4 := hc.mat.most
  unfold maxLen at b2 b4
  have hl2 := hl.first k hm
  rw [ofm_take hm] at hl2
  have HL := Lib.hid hl2
  have k1 := hc.k1
  have k2 := hc.kn
  have k3 := hc.n255
  have hcut := fun W => run_cut_first (P := Try.prog) 24 38 Try.underlying24 sizeLb A2 m c2 k (k : Int) rfl (by omega) W
  obtain ⟨A7, r7, q7⟩ := hc.mat.cutOne (P := Try.prog) 62 38 Try.underlying62 sizeLb i (rm k fun j => (rsr k i j).v) (i : Int) ((i + 1 : Nat) : Int) rfl rfl hi (ofm_get hi)
  obtain ⟨i1, hi1⟩ : ∃ i1, i1 = i + 1 := ⟨_, rfl⟩
  rw [← hi1] at q7
  have hW : IntKind.i64.wrap ((i : Int) + 1) = (i1 : Int) := by rw [IntWalk.i64_in _ (by omega)]; omega
  have H7 : Hid (RdL w A7 1 (c - i) (ofm 1 k fun t => rsr k (i + t))) := Lib.hid r7
  have p1 : (0 : Int) ≤ (k : Int) := by omega
  have p2 : (k : Int) ≤ (m : Int) := by omega
  have p3 : (k : Int) ≤ (c2 : Int) := by omega
  have p4 : (0 : Int) ≤ (i : Int) := by omega
  have p5 : (i : Int) ≤ (i1 : Int) := by omega
  have p6 : (i1 : Int) ≤ (n : Int) := by omega
  have p7 : (i1 : Int) ≤ (c : Int) := by omega
  clear hc h1 hl h hf hV hl2 r7 hi1
  go_enter Try.func23, Try.ntmps23
  go_wp2_with fail
  refine (has9_yes _ _ _ i _ _ rfl hi).mono ?_
  rintro e w' ⟨rfl, rfl⟩
  go_wp2_with fail
  refine HB.out.mono ?_
  rintro e w3 ⟨A3, n3, c3, rfl, hr3, hk3⟩
  obtain rfl : k = n3 := by have := hr3.len; rw [ofm_length] at this; exact this
  have HC3 := Lib.hid (HC.out.kept0 hk3)
  have HL3 := Lib.hid (HL.out.kept0 hk3)
  have H73 := Lib.hid (H7.out.kept0 hk3)
  have HR3 := Lib.hid hr3
  have HK := Lib.hid hk3
  have SK : Hid (∀ W, Kept [] w3 W → W.cell? ⟨q, 2, none⟩ = some (.pointer (some ⟨p, 0, none⟩)) ∧ W.cell? ⟨q, 0, none⟩ = some (.slice A n c)) := Lib.hid (fun W hW => ⟨(HC3.out.kept0 hW).tab, (HC3.out.kept0 hW).rows⟩)
  have hKc : Kept [] w3 w3.drew := (Kept.refl [] w3).drew
  clear hr3 hk3 HC HL H7 d1
  go_wp2_with fail
  go_region_held3 (fun w' => w'.cell? ⟨q, 2, none⟩ = some (.pointer (some ⟨p, 0, none⟩)) ∧ w'.cell? ⟨q, 0, none⟩ = some (.slice A n c))
    (first
      | exact SK.out _ hKc
      | exact SK.out _ (Kept.refl [] w3).drew
      | exact SK.out _ (Kept.refl [] w3))
    (first
      | (go_at_call 38; refine (mul8_any p _ _ _ _ _ _ _ _ _ _ (HC3.out.kept0 hKc).tabs (H73.out.kept0 hKc) (HR3.out.kept0 hKc) (by omega) (by omega) k1 (by omega) k1 (by omega)).mono ?_; rintro e w4 ⟨R, G, off, rfl, hM4, hwR, hwG, hk4⟩; have hKc := hKc.andThen hk4))
  have HC4 := Lib.hid (HC3.out.kept0 hKc)
  have HL4 := Lib.hid (HL3.out.kept0 hKc)
  have HK4 := Lib.hid (HK.out.andThen hKc)
  have HR4 := Lib.hid (hM4.rdb (i := 0) (by omega) (by simp only [maxLen]; omega))
  have hrow := hM4.row (i := 0) (by omega)
  have hRl := hM4.ltR
  obtain ⟨o4, ho4⟩ : ∃ o4, o4 = off 0 := ⟨_, rfl⟩
  rw [← ho4] at HR4 hrow
  have SQ : Hid (∀ W, Kept [] w4 W → W.cell? ⟨q, 2, none⟩ = some (.pointer (some ⟨p, 0, none⟩)) ∧ W.cell? ⟨q, 1, none⟩ = some (.int .i64 (k : Int)) ∧ W.cell? ⟨R, 0, none⟩ = some (.slice (some ⟨G, o4, none⟩) k k)) := Lib.hid (fun W hW => ⟨(HC4.out.kept0 hW).tab, (HC4.out.kept0 hW).cnt, (hW.cell (p := ⟨R, 0, none⟩) hRl (by simp)).trans hrow⟩)
  have HE : Hid (∀ W A8 n8 c8, RdB W A8 n8 c8 (rm N fun c => (fsm k fun l => mm k (fun t => rsr k (i + t)) V 0 l * x l c).v) → RdB W A8 n8 c8 (rm N fun c => (mm k (rsr k) (mm k V x) i c).v)) := Lib.hid (fun W A8 n8 c8 h => by
    have e : ∀ c, fsm k (fun l => mm k (fun t => rsr k (i + t)) V 0 l * x l c) = mm k (rsr k) (mm k V x) i c := fun c => by
      rw [← mm_assoc]; rfl
    simp only [e] at h
    exact h)
  clear hM4 hrow hRl ho4 hwR hwG hk4 HC3 HL3 H73 HR3 HK SK hKc
  have hKd : Kept [] w4 w4.drew := (Kept.refl [] w4).drew
  go_wp2_with fail
  go_region_held3 (fun w' => w'.cell? ⟨q, 2, none⟩ = some (.pointer (some ⟨p, 0, none⟩)) ∧ w'.cell? ⟨q, 1, none⟩ = some (.int .i64 (k : Int)) ∧ w'.cell? ⟨R, 0, none⟩ = some (.slice (some ⟨G, o4, none⟩) k k))
    (first
      | exact SQ.out _ hKd
      | exact SQ.out _ (Kept.refl [] w4).drew
      | exact SQ.out _ (Kept.refl [] w4))
    (first
      | (go_at_call 32; refine (sum9_any p k N k1 hN (mm k (fun t => rsr k (i + t)) V 0) x _ _ _ _ _ _ _ (HC4.out.kept0 hKd).tabs (HR4.out.kept0 hKd) (HL4.out.kept0 hKd)).mono ?_; rintro e w8 ⟨A8, n8, c8, rfl, hr8, hk8⟩; have hKd := hKd.andThen hk8))
  go_wp2
  go_ret2
  exact ⟨A8, n8, c8, rfl, HE.out _ _ _ _ hr8, HK4.out.andThen hKd⟩
end Go.Proofs.Ytpnpimhfakfolaa
