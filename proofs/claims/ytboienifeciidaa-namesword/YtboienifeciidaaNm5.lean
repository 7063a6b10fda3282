/-
  Contracts of layer 10 (names): the byte with which a word begins. No statement of the seed is proved here.
-/
import Derived.Test.YtboienifeciidaaNm4
import Derived.Shelf.Small.Strs
import Derived.Deep.QuietTactic
import Derived.BigQuiet
namespace Go.Proofs.Ytboienifeciidaa
open Go.RowKit Go.Shelf
set_option linter.unusedVariables false

def iren : Ren := ⟨fun | 137 => 32 | 217 => 35 | 266 => 36 | n => n, fun | 3 => 3 | 5 => 5 | 9 => 9 | n => n, fun n => n⟩
theorem lays137 : Lays.n137 Try.prog iren := {
  mixed := by kernel_rfl
  f137 := Try.func32.trans (congrArg some (by kernel_rfl))
  f217 := Try.func35.trans (congrArg some (by kernel_rfl))
  f266 := Try.func36.trans (congrArg some (by kernel_rfl))
  t3 := Try.underlying3
  a3 := Try.isAgg3
  z3 := Try.sizeOf3
  v3 := Try.zeroValue3
  t5 := Try.underlying5
  a5 := Try.isAgg5
  z5 := Try.sizeOf5
  v5 := Try.zeroValue5
  t9 := Try.underlying9
  a9 := Try.isAgg9
  z9 := Try.sizeOf9
  v9 := Try.zeroValue9 }
/-- A digit's value. -/
theorem iByte_any (z : Int) (v : Int) (hv : valZ z.toNat.toUInt8 = v) (w : World) :
    Calls Try.prog 32 #[.string ⟨#[48, 49, 50, 51, 52, 53, 54, 55, 56, 57, 97, 98, 99, 100, 101, 102]⟩, .int .u8 z] w fun e w' => e = .returned (.int .i64 v) ∧ w' = w := by
  refine (Any.strings_IndexByte lays137 ⟨#[48, 49, 50, 51, 52, 53, 54, 55, 56, 57, 97, 98, 99, 100, 101, 102]⟩ z w).mono ?_
  rintro e w' ⟨rfl, rfl⟩
  refine ⟨?_, rfl⟩
  rw [← hv, ← index_value]
  rfl

@[irreducible] def firV : Option (UInt8 × Nat) → Value
  | some (x, k) => .tuple #[.int .u8 x.toNat, .int .i64 k]
  | none => .tuple #[.int .u8 0, .int .i64 0]
theorem firV_some (x : UInt8) (k : Nat) : firV (some (x, k)) = .tuple #[.int .u8 x.toNat, .int .i64 k] := by unfold firV; rfl
theorem firV_none : firV none = .tuple #[.int .u8 0, .int .i64 0] := by unfold firV; rfl

theorem or_digits' : ∀ a : Fin 16, ∀ b : Fin 16, bits .or .i64 (((a.val : Nat) : Int) * 16) ((b.val : Nat) : Int) = 16 * ((a.val : Nat) : Int) + ((b.val : Nat) : Int) := by decide +kernel
theorem or_digits {a b : Int} (a0 : 0 ≤ a) (a1 : a < 16) (b0 : 0 ≤ b) (b1 : b < 16) : bits .or .i64 (a * 16) b = 16 * a + b := by
  have := or_digits' ⟨a.toNat, by omega⟩ ⟨b.toNat, by omega⟩
  simp only [Int.toNat_of_nonneg a0, Int.toNat_of_nonneg b0] at this
  exact this
theorem list_three {l : List UInt8} (h : 3 ≤ l.length) : ∃ b c d t, l = b :: c :: d :: t := by
  match l, h with
  | b :: c :: d :: t, _ => exact ⟨b, c, d, t, rfl⟩
theorem list_one {l : List UInt8} (h : 0 < l.length) : ∃ b t, l = b :: t := by
  match l, h with
  | b :: t, _ => exact ⟨b, t, rfl⟩

set_option maxRecDepth 100000 in
set_option maxHeartbeats 4000000 in
theorem nFirst_any (s : ByteArray) (w : World) (h0 : 0 < s.size) (hs : s.size ≤ 1000000) : Calls Try.prog 25 #[.string s] w fun e w' => e = .returned (firV (firL (strL s))) ∧ Kept [] w w' := by
  have hl := strL_length s
  obtain ⟨b, t, he⟩ := list_one (l := strL s) (by omega)
  have hx0 : ∀ v, (Instr.index 9 (.string s) (.int .i64 0)).run Try.prog v = .ok (.int .u8 b.toNat) v := fun v => idx_str (k := 0) h0 rfl (by rw [he]; rfl) Try.underlying9 v
  have hb8 := UInt8.toNat_lt b
  cases hself : selfB b with
  | true =>
    rw [he, firL_self hself, firV_some]
    have HZ : Hid (selfZ (b.toNat : Int) = true) := Lib.hid (by rw [selfZ_byte]; exact hself)
    clear he hself hl
    go_enter Try.func25, Try.ntmps25
    go_wp2_with (go_at_call 23; refine (nSelf_any _ _).mono ?_; rw [HZ.out]; rintro e w' ⟨rfl, rfl⟩)
    go_ret2
    exact ⟨rfl, Kept.refl _ _⟩
  | false =>
    have HZ : Hid (selfZ (b.toNat : Int) = false) := Lib.hid (by rw [selfZ_byte]; exact hself)
    by_cases h3 : s.size < 3
    · rw [he, firL_short hself (by rw [he] at hl; simp at hl; omega), firV_none]
      clear he hself hl
      go_enter Try.func25, Try.ntmps25
      go_wp2_with (go_at_call 23; refine (nSelf_any _ _).mono ?_; rw [HZ.out]; rintro e w' ⟨rfl, rfl⟩)
      go_ret2
      exact ⟨rfl, Kept.refl _ _⟩
    obtain ⟨b', c, d, t', he'⟩ := list_three (l := strL s) (by omega)
    obtain rfl : b' = b := by rw [he] at he'; cases he'; rfl
    have hx1 : ∀ v, (Instr.index 9 (.string s) (.int .i64 1)).run Try.prog v = .ok (.int .u8 c.toNat) v := fun v => idx_str (k := 1) (by omega) rfl (by rw [he']; rfl) Try.underlying9 v
    have hx2 : ∀ v, (Instr.index 9 (.string s) (.int .i64 2)).run Try.prog v = .ok (.int .u8 d.toNat) v := fun v => idx_str (k := 2) (by omega) rfl (by rw [he']; rfl) Try.underlying9 v
    rw [he', firL_three hself]
    clear he he' hself hl
    by_cases h37 : b' = 37
    · subst h37
      have HZ : Hid (selfZ 37 = false) := Lib.hid (by decide)
      have hx0 : ∀ v, (Instr.index 9 (.string s) (.int .i64 0)).run Try.prog v = .ok (.int .u8 37) v := hx0
      obtain ⟨vc, hvc⟩ : ∃ v, valZ c = v := ⟨_, rfl⟩
      obtain ⟨vd, hvd⟩ : ∃ v, valZ d = v := ⟨_, rfl⟩
      have HC : Hid (valZ ((c.toNat : Int).toNat.toUInt8) = vc) := Lib.hid (by rw [← hvc]; congr 1; simp)
      have HD : Hid (valZ ((d.toNat : Int).toNat.toUInt8) = vd) := Lib.hid (by rw [← hvd]; congr 1; simp)
      have bc : 0 ≤ vc → vc < 16 := fun h => by rw [← hvc] at h ⊢; exact (valZ_back h).2
      have bd : 0 ≤ vd → vd < 16 := fun h => by rw [← hvd] at h ⊢; exact (valZ_back h).2
      have gc := valZ_ge c
      have gd := valZ_ge d
      rw [hvc] at gc
      rw [hvd] at gd
      rw [hvc, hvd]
      clear hvc hvd
      by_cases hc0 : 0 ≤ vc
      · by_cases hd0 : 0 ≤ vd
        · have bc := bc hc0
          have bd := bd hd0
          have hor := or_digits hc0 bc hd0 bd
          have hxv : (UInt8.ofNat (16 * vc + vd).toNat).toNat = (16 * vc + vd).toNat := by rw [UInt8.toNat_ofNat']; exact Nat.mod_eq_of_lt (by omega)
          obtain ⟨y, hy⟩ : ∃ y, UInt8.ofNat (16 * vc + vd).toNat = y := ⟨_, rfl⟩
          rw [hy] at hxv ⊢
          obtain ⟨x, hx⟩ : ∃ x : Int, 16 * vc + vd = x := ⟨_, rfl⟩
          rw [hx] at hor hxv
          have hx0' : 0 ≤ x := by omega
          have hx256 : x < 256 := by omega
          have hxm : x % 256 = x := by omega
          have hxy : (y.toNat : Int) = x := by omega
          clear hx hy hxv
          cases hsy : selfB y with
          | true =>
            have HX : Hid (selfZ x = true) := Lib.hid (by rw [← hxy, selfZ_byte, hsy])
            rw [if_neg (fun g => absurd g.2.2.2 (by simp)), firV_none]
            clear hsy hxy
            go_enter Try.func25, Try.ntmps25
            go_wp2_with (go_at_call 23; refine (nSelf_any _ _).mono ?_; rw [HZ.out]; rintro e w' ⟨rfl, rfl⟩)
            go_quiet (first | (go_at_call 32; refine Calls.quiet_of ((iByte_any (c.toNat : Int) vc HC.out _).mono fun e w' h => ⟨h.1, 0, by rw [h.2]; rfl⟩)) | (go_at_call 32; refine Calls.quiet_of ((iByte_any (d.toNat : Int) vd HD.out _).mono fun e w' h => ⟨h.1, 0, by rw [h.2]; rfl⟩)))
            go_wp2_with (go_at_call 23; refine (nSelf_any _ _).mono ?_; rw [HX.out]; rintro e w' ⟨rfl, rfl⟩)
            go_ret2
            exact ⟨rfl, (Kept.refl [] w).drewN _⟩
          | false =>
            have HX : Hid (selfZ x = false) := Lib.hid (by rw [← hxy, selfZ_byte, hsy])
            rw [if_pos ⟨rfl, hc0, hd0, rfl⟩, firV_some, hxy]
            clear hsy hxy
            go_enter Try.func25, Try.ntmps25
            go_wp2_with (go_at_call 23; refine (nSelf_any _ _).mono ?_; rw [HZ.out]; rintro e w' ⟨rfl, rfl⟩)
            go_quiet (first | (go_at_call 32; refine Calls.quiet_of ((iByte_any (c.toNat : Int) vc HC.out _).mono fun e w' h => ⟨h.1, 0, by rw [h.2]; rfl⟩)) | (go_at_call 32; refine Calls.quiet_of ((iByte_any (d.toNat : Int) vd HD.out _).mono fun e w' h => ⟨h.1, 0, by rw [h.2]; rfl⟩)))
            go_wp2_with (go_at_call 23; refine (nSelf_any _ _).mono ?_; rw [HX.out]; rintro e w' ⟨rfl, rfl⟩)
            go_ret2
            exact ⟨rfl, (Kept.refl [] w).drewN _⟩
        · have hd1 : vd < 0 := by omega
          rw [if_neg (by omega), firV_none]
          go_enter Try.func25, Try.ntmps25
          go_wp2_with (go_at_call 23; refine (nSelf_any _ _).mono ?_; rw [HZ.out]; rintro e w' ⟨rfl, rfl⟩)
          go_quiet (first | (go_at_call 32; refine Calls.quiet_of ((iByte_any (c.toNat : Int) vc HC.out _).mono fun e w' h => ⟨h.1, 0, by rw [h.2]; rfl⟩)) | (go_at_call 32; refine Calls.quiet_of ((iByte_any (d.toNat : Int) vd HD.out _).mono fun e w' h => ⟨h.1, 0, by rw [h.2]; rfl⟩)))
          go_wp2
          go_ret2
          exact ⟨rfl, (Kept.refl [] w).drewN _⟩
      · have hc1 : vc < 0 := by omega
        rw [if_neg (by omega), firV_none]
        go_enter Try.func25, Try.ntmps25
        go_wp2_with (go_at_call 23; refine (nSelf_any _ _).mono ?_; rw [HZ.out]; rintro e w' ⟨rfl, rfl⟩)
        go_quiet (first | (go_at_call 32; refine Calls.quiet_of ((iByte_any (c.toNat : Int) vc HC.out _).mono fun e w' h => ⟨h.1, 0, by rw [h.2]; rfl⟩)) | (go_at_call 32; refine Calls.quiet_of ((iByte_any (d.toNat : Int) vd HD.out _).mono fun e w' h => ⟨h.1, 0, by rw [h.2]; rfl⟩)))
        go_wp2
        go_ret2
        exact ⟨rfl, (Kept.refl [] w).drewN _⟩
    · have hb37 : ¬ (b'.toNat : Int) = 37 := fun e => h37 (by rw [← UInt8.toNat_inj]; show _ = 37; omega)
      rw [if_neg (fun g => h37 g.1), firV_none]
      obtain ⟨zb, hzb⟩ : ∃ z : Int, (b'.toNat : Int) = z := ⟨_, rfl⟩
      rw [hzb] at hb37 HZ
      simp only [hzb] at hx0
      have hbb : (zb != 37) = true := bne_iff_ne.2 hb37
      clear h37 hzb
      go_enter Try.func25, Try.ntmps25
      go_wp2_with (go_at_call 23; refine (nSelf_any _ _).mono ?_; rw [HZ.out]; rintro e w' ⟨rfl, rfl⟩)
      go_ret2
      exact ⟨rfl, Kept.refl _ _⟩
end Go.Proofs.Ytboienifeciidaa
