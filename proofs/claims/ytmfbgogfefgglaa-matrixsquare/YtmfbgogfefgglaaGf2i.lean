/-
  Contracts of layer 7 (gf): quotients, inverses. No statement of the seed is proved here.
-/
import Derived.Test.YtmfbgogfefgglaaGf1
import Derived.Test.YtmfbgogfefgglaaR7m
namespace Go.Proofs.Ytmfbgogfefgglaa
open Go.RowKit
set_option linter.unusedVariables false

/-- A byte and an error's number. -/
abbrev bn (x : UInt8) (n : Int) : Value := .tuple #[.int .u8 (x.toNat : Int), .int .i64 n]

theorem div7_nil (y z : Int) (w : World) : Calls Try.prog 40 #[.pointer none, .int .u8 y, .int .u8 z] w fun e w' => e = .returned (bn 0 15) ∧ w' = w := by
  go_enter Try.func40, Try.ntmps40
  go_wp2
  go_ret2
  exact ⟨rfl, rfl⟩
theorem div7_zero (p : Nat) (y z : Int) (w : World) (hz : z = 0) : Calls Try.prog 40 #[.pointer (some ⟨p, 0, none⟩), .int .u8 y, .int .u8 z] w fun e w' => e = .returned (bn 0 14) ∧ w' = w := by
  subst hz
  go_enter Try.func40, Try.ntmps40
  go_wp2
  go_ret2
  exact ⟨rfl, rfl⟩
set_option maxRecDepth 100000 in
set_option maxHeartbeats 1000000 in
theorem div7_any (p : Nat) (a b : UInt8) (y z : Int) (w : World) (hT : TabAt w p) (hy : y = (a.toNat : Int)) (hz : z = (b.toNat : Int)) (hb0 : b ≠ 0) :
    Calls Try.prog 40 #[.pointer (some ⟨p, 0, none⟩), .int .u8 y, .int .u8 z] w fun e w' => e = .returned (bn (gmul 0x1d a (ginv 0x1d b)) 0) ∧ ∃ m, w' = w.drewN m := by
  subst hy hz
  have ha := a.toNat_lt
  have hb := b.toNat_lt
  have hnb : b.toNat ≠ 0 := fun h => hb0 (UInt8.toNat_inj.1 h)
  have heb : ((b.toNat : Int) == 0) = false := by simp; omega
  have c1 := hT.log b hb0
  have l1 := glog_lt b hb0
  have hg := ginv_log b hb0
  have c2 := hT.exp (255 - glog b) (by omega)
  rw [hg] at c2
  have HT := Lib.hid hT
  generalize ginv 0x1d b = r at *
  generalize glog b = lb at *
  obtain ⟨s, hs⟩ : ∃ s, s = 255 - lb := ⟨_, rfl⟩
  rw [← hs] at c2
  have hw : IntKind.i64.wrap (255 - (lb : Int)) = (s : Int) := by rw [IntWalk.i64_in _ (by omega)]; omega
  have hsl : (s : Int) < 510 := by omega
  clear hg hs hb0 hT hnb
  go_enter Try.func40, Try.ntmps40
  go_wp2
  go_quiet (first | (go_at_call 36; refine Calls.quiet_of (mul7_any p a r _ _ _ (by first | exact HT.out | exact HT.out.drewN _) rfl rfl)))
  go_wp2
  go_ret2
  exact ⟨rfl, nq, rfl⟩

theorem inv7_nil (y : Int) (w : World) : Calls Try.prog 35 #[.pointer none, .int .u8 y] w fun e w' => e = .returned (bn 0 15) ∧ w' = w := by
  go_enter Try.func35, Try.ntmps35
  go_wp2_with fail
  refine (div7_nil _ _ _).mono ?_
  rintro e w' ⟨rfl, rfl⟩
  go_wp2
  go_ret2
  exact ⟨rfl, rfl⟩
theorem inv7_zero (p : Nat) (z : Int) (w : World) (hz : z = 0) : Calls Try.prog 35 #[.pointer (some ⟨p, 0, none⟩), .int .u8 z] w fun e w' => e = .returned (bn 0 14) ∧ w' = w := by
  subst hz
  go_enter Try.func35, Try.ntmps35
  go_wp2_with fail
  refine (div7_zero p _ _ _ rfl).mono ?_
  rintro e w' ⟨rfl, rfl⟩
  go_wp2
  go_ret2
  exact ⟨rfl, rfl⟩
theorem inv7_any (p : Nat) (b : UInt8) (z : Int) (w : World) (hT : TabAt w p) (hz : z = (b.toNat : Int)) (hb0 : b ≠ 0) :
    Calls Try.prog 35 #[.pointer (some ⟨p, 0, none⟩), .int .u8 z] w fun e w' => e = .returned (bn (ginv 0x1d b) 0) ∧ ∃ m, w' = w.drewN m := by
  subst hz
  have HT := Lib.hid hT
  have H0 := Lib.hid hb0
  clear hT hb0
  go_enter Try.func35, Try.ntmps35
  go_wp2_with fail
  refine (div7_any p 1 b _ _ _ HT.out rfl rfl H0.out).mono ?_
  rw [gmul_one_l (.inl rfl)]
  rintro e w' ⟨rfl, m, rfl⟩
  go_wp2
  go_ret2
  exact ⟨rfl, m, rfl⟩

/-! ### the same, with what comes named -/
theorem mul7_v (p : Nat) (x y : UInt8) (zx zy r : Int) (w : World) (hT : TabAt w p) (hx : zx = (x.toNat : Int)) (hy : zy = (y.toNat : Int)) (hr : ((gmul 0x1d x y).toNat : Int) = r) :
    Calls Try.prog 36 #[.pointer (some ⟨p, 0, none⟩), .int .u8 zx, .int .u8 zy] w fun e w' => e = .returned (.int .u8 r) ∧ TabAt w' p ∧ Kept [] w w' :=
  (mul7_any p x y zx zy w hT hx hy).mono fun e w' h => by
    obtain ⟨h1, m, rfl⟩ := h
    exact ⟨by rw [h1, hr], hT.drewN m, (Kept.refl [] w).drewN m⟩
theorem inv7_v (p : Nat) (b : UInt8) (z r : Int) (w : World) (hT : TabAt w p) (hz : z = (b.toNat : Int)) (hb0 : b ≠ 0) (hr : ((ginv 0x1d b).toNat : Int) = r) :
    Calls Try.prog 35 #[.pointer (some ⟨p, 0, none⟩), .int .u8 z] w fun e w' => e = .returned (.tuple #[.int .u8 r, .int .i64 0]) ∧ TabAt w' p ∧ Kept [] w w' :=
  (inv7_any p b z w hT hz hb0).mono fun e w' h => by
    obtain ⟨h1, m, rfl⟩ := h
    exact ⟨by rw [h1]; unfold bn; rw [hr], hT.drewN m, (Kept.refl [] w).drewN m⟩
theorem inv7_z (p : Nat) (z : Int) (w : World) (hT : TabAt w p) (hz : z = 0) :
    Calls Try.prog 35 #[.pointer (some ⟨p, 0, none⟩), .int .u8 z] w fun e w' => e = .returned (.tuple #[.int .u8 0, .int .i64 14]) ∧ TabAt w' p ∧ Kept [] w w' :=
  (inv7_zero p z w hz).mono fun e w' h => by
    obtain ⟨h1, rfl⟩ := h
    exact ⟨h1, hT, Kept.refl [] _⟩
theorem div7_v (p : Nat) (a b : UInt8) (y z r : Int) (w : World) (hT : TabAt w p) (hy : y = (a.toNat : Int)) (hz : z = (b.toNat : Int)) (hb0 : b ≠ 0) (hr : ((gmul 0x1d a (ginv 0x1d b)).toNat : Int) = r) :
    Calls Try.prog 40 #[.pointer (some ⟨p, 0, none⟩), .int .u8 y, .int .u8 z] w fun e w' => e = .returned (.tuple #[.int .u8 r, .int .i64 0]) ∧ TabAt w' p ∧ Kept [] w w' :=
  (div7_any p a b y z w hT hy hz hb0).mono fun e w' h => by
    obtain ⟨h1, m, rfl⟩ := h
    exact ⟨by rw [h1]; unfold bn; rw [hr], hT.drewN m, (Kept.refl [] w).drewN m⟩
theorem div7_z (p : Nat) (y z : Int) (w : World) (hT : TabAt w p) (hz : z = 0) :
    Calls Try.prog 40 #[.pointer (some ⟨p, 0, none⟩), .int .u8 y, .int .u8 z] w fun e w' => e = .returned (.tuple #[.int .u8 0, .int .i64 14]) ∧ TabAt w' p ∧ Kept [] w w' :=
  (div7_zero p y z w hz).mono fun e w' h => by
    obtain ⟨h1, rfl⟩ := h
    exact ⟨h1, hT, Kept.refl [] _⟩
theorem mulR7_v (x y : UInt8) (zx zy r : Int) (w : World) (hx : zx = (x.toNat : Int)) (hy : zy = (y.toNat : Int)) (hr : ((gmul 0x1d x y).toNat : Int) = r) :
    Calls Try.prog 30 #[.int .u8 zx, .int .u8 zy] w fun e w' => e = .returned (.int .u8 r) ∧ w' = w :=
  (mulR7_any x y zx zy w hx hy).mono fun e w' h => ⟨by rw [h.1, hr], h.2⟩
theorem invR7_v (x : UInt8) (zx r : Int) (w : World) (hx : zx = (x.toNat : Int)) (hr : ((ginv 0x1d x).toNat : Int) = r) :
    Calls Try.prog 34 #[.int .u8 zx] w fun e w' => e = .returned (.int .u8 r) ∧ w' = w :=
  (invR7_any x zx w hx).mono fun e w' h => ⟨by rw [h.1, hr], h.2⟩
end Go.Proofs.Ytmfbgogfefgglaa
