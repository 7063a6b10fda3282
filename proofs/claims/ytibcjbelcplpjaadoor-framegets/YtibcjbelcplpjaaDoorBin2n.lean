/-
  Contracts of the writer's functions of layer 1 (bin), over this seat's program: numbers, and what is handed out. No statement of the seed is proved here.
-/
import Derived.Test.YtibcjbelcplpjaaDoorBin1
import Derived.Test.YtibcjbelcplpjaaDoorBtC
import Derived.Test.YtibcjbelcplpjaaDoorPd
import Derived.Lib.Strings
import Derived.Lib.Small
import Derived.Lib.Walk
import Derived.WalkSpells
namespace Go.Proofs.YtibcjbelcplpjaaDoor
open Go.RowKit
set_option linter.unusedVariables false

theorem byte_of (x : Int) (h0 : 0 ≤ x) (d : Nat) : x / 2 ^ d % 256 = ((UInt8.ofNat (x.toNat / 2 ^ d)).toNat : Int) := by
  obtain ⟨n, rfl⟩ := Int.eq_ofNat_of_zero_le h0
  rw [ofNat_toNat, Int.toNat_natCast]
  have : ((2 : Int) ^ d) = ((2 ^ d : Nat) : Int) := by simp
  rw [this]
  omega
theorem be_step (x n k : Nat) (h : k < n) : be (k + 1) (x / 256 ^ (n - (k + 1))) = be k (x / 256 ^ (n - k)) ++ [UInt8.ofNat (x / 2 ^ (8 * (n - 1 - k)))] := by
  have e1 : n - k = (n - (k + 1)) + 1 := by omega
  have e2 : n - 1 - k = n - (k + 1) := by omega
  rw [be, e1, e2, Nat.pow_succ, Nat.div_div_eq_div_mul, Nat.pow_mul]

theorem putNumber_any (p : Nat) (F : List Nat) (xs : List UInt8) (x : Int) (n : Nat) (w : World) (hw : Wri w p F xs) (h0 : 0 ≤ x) (h1 : x ≤ 18446744073709551615) (hn : n ≤ 8) (hb : xs.length ≤ 140737488355000) :
    Calls Tryd.prog 56 #[.pointer (some ⟨p, 0, none⟩), .int .u64 x, .int .i64 n] w (PutRet p F xs (be n x.toNat) w (.tuple #[])) := by
  go_enter Tryd.func56, Tryd.ntmps56
  go_wp2
  go_loopw [8] (fun i wr => ∃ (k : Nat) (F' : List Nat), k ≤ n ∧ i = .int .i64 k ∧ Puts p F xs (be k (x.toNat / 256 ^ (n - k))) w wr F') (fun i _ => n - (intOf i).toNat)
  case atStart => exact ⟨0, F, by omega, rfl, Puts.refl hw⟩
  case round =>
    obtain ⟨k, F', hk, rfl, hP⟩ := hrel
    by_cases hlt : k < n
    · have hl := be_length k (x.toNat / 256 ^ (n - k))
      go_wp2_with fail
      refine (put_any p F' _ _ 1 1 [UInt8.ofNat (x.toNat / 2 ^ (8 * (n - 1 - k)))] _ (hP.wri.alloc _) (RdB.one _ _ _ _ (byte_of x h0 _)) (by rw [List.length_append, hl]; omega)).mono ?_
      rintro e w1 ⟨rfl, F1, hP1⟩
      go_wp2
      go_roundw
      case rel => exact ⟨k + 1, F1, by omega, by go_num, by rw [be_step _ _ _ hlt]; exact hP.trans hP1.alloc⟩
      case measure => simp [intOf]; omega
    · have : k = n := by omega
      subst this
      go_wp2
      go_end0
      exact ⟨rfl, F', by simpa using hP⟩

theorem widthRight_yes (n : Int) (w : World) (h1 : 1 ≤ n) (h8 : n ≤ 8) : Calls Tryd.prog 55 #[.int .i64 n] w fun e w' => e = .returned (.bool true) ∧ w = w' := by
  go_enter Tryd.func55, Tryd.ntmps55
  go_wp2
  go_ret
  exact ⟨rfl, rfl⟩
theorem widthRight_no (n : Int) (w : World) (h1 : n < 1 ∨ 8 < n) : Calls Tryd.prog 55 #[.int .i64 n] w fun e w' => e = .returned (.bool false) ∧ w = w' := by
  rcases h1 with h | h
  · have hd : decide (1 ≤ n) = false := by simp; omega
    go_enter Tryd.func55, Tryd.ntmps55
    go_wp2
    go_ret
    exact ⟨rfl, rfl⟩
  · have hd : decide (n ≤ 8) = false := by simp; omega
    go_enter Tryd.func55, Tryd.ntmps55
    go_wp2
    go_ret
    exact ⟨rfl, rfl⟩

theorem shift_zero (x : Int) (n : Nat) (h0 : 0 ≤ x) (h : x.toNat < 256 ^ n) : x / 2 ^ (8 * n) = 0 := by
  obtain ⟨m, rfl⟩ := Int.eq_ofNat_of_zero_le h0
  have e : ((2 : Int) ^ (8 * n)) = ((256 ^ n : Nat) : Int) := by rw [Int.pow_mul]; simp
  rw [e]
  rw [Int.toNat_natCast] at h
  rw [← Int.natCast_ediv, Nat.div_eq_of_lt h]; rfl
theorem shift_more (x : Int) (n : Nat) (h0 : 0 ≤ x) (h : 256 ^ n ≤ x.toNat) : x / 2 ^ (8 * n) ≠ 0 := by
  obtain ⟨m, rfl⟩ := Int.eq_ofNat_of_zero_le h0
  have e : ((2 : Int) ^ (8 * n)) = ((256 ^ n : Nat) : Int) := by rw [Int.pow_mul]; simp
  rw [e]
  rw [Int.toNat_natCast] at h
  rw [← Int.natCast_ediv]
  have : 0 < m / 256 ^ n := Nat.div_pos h (Nat.pow_pos (by omega))
  omega

theorem wNum_nil (x n : Int) (w : World) : Calls Tryd.prog 36 #[.pointer none, .int .u64 x, .int .i64 n] w fun e w' => e = .returned (.int .i64 15) ∧ w = w' := by
  go_enter Tryd.func36, Tryd.ntmps36
  go_wp2
  go_ret
  exact ⟨rfl, rfl⟩
theorem wNum_arg (p : Nat) (x n : Int) (w : World) (hn : n < 1 ∨ 8 < n) : Calls Tryd.prog 36 #[.pointer (some ⟨p, 0, none⟩), .int .u64 x, .int .i64 n] w fun e w' => e = .returned (.int .i64 14) ∧ w = w' := by
  go_enter Tryd.func36, Tryd.ntmps36
  go_wp2_with (go_at_call 55; refine (widthRight_no _ _ hn).mono ?_; rintro e w' ⟨rfl, rfl⟩)
  go_ret
  exact ⟨rfl, rfl⟩
theorem wNum_range (p : Nat) (x : Int) (n : Nat) (w : World) (h0 : 0 ≤ x) (h1 : x ≤ 18446744073709551615) (hn1 : 1 ≤ n) (hn8 : n ≤ 8) (hx : 256 ^ n ≤ x.toNat) :
    Calls Tryd.prog 36 #[.pointer (some ⟨p, 0, none⟩), .int .u64 x, .int .i64 n] w fun e w' => e = .returned (.int .i64 3) ∧ w = w' := by
  have hne : (x / 2 ^ (8 * n) != 0) = true := by simpa using shift_more x n h0 hx
  go_enter Tryd.func36, Tryd.ntmps36
  go_wp2_with (go_at_call 55; refine (widthRight_yes _ _ (by omega) (by omega)).mono ?_; rintro e w' ⟨rfl, rfl⟩)
  go_ret
  exact ⟨rfl, rfl⟩
theorem wNum_any (p : Nat) (F : List Nat) (xs : List UInt8) (x : Int) (n : Nat) (w : World) (hw : Wri w p F xs) (h0 : 0 ≤ x) (h1 : x ≤ 18446744073709551615) (hn1 : 1 ≤ n) (hn8 : n ≤ 8) (hx : x.toNat < 256 ^ n) (hb : xs.length ≤ 140737488355000) :
    Calls Tryd.prog 36 #[.pointer (some ⟨p, 0, none⟩), .int .u64 x, .int .i64 n] w (PutRet p F xs (be n x.toNat) w (.int .i64 0)) := by
  have hne : x / 2 ^ (8 * n) = 0 := shift_zero x n h0 hx
  go_enter Tryd.func36, Tryd.ntmps36
  go_wp2_with (first | (go_at_call 55; refine (widthRight_yes _ _ (by omega) (by omega)).mono ?_; rintro e w' ⟨rfl, rfl⟩) | (go_at_call 56; refine (putNumber_any p F _ x n _ hw h0 h1 (by omega) hb).mono ?_; rintro e w1 ⟨rfl, F1, hP1⟩))
  go_ret
  exact ⟨rfl, F1, hP1⟩

theorem wOut_nil (w : World) : Calls Tryd.prog 39 #[.pointer none] w fun e w' => e = .returned (.slice none 0 0) ∧ w = w' := by
  go_enter Tryd.func39, Tryd.ntmps39
  go_wp2
  go_ret
  exact ⟨rfl, rfl⟩
theorem wOut_any (p : Nat) (F : List Nat) (xs : List UInt8) (w : World) (hw : Wri w p F xs) (hb : xs.length ≤ 140737488355328) :
    Calls Tryd.prog 39 #[.pointer (some ⟨p, 0, none⟩)] w (CloneRet xs w) := by
  obtain ⟨v, hp, hown, rfl⟩ := hw
  have hc : w.cell? ⟨p, 0, none⟩ = some v := by rw [cell_of_row w p 0 _ _ _ hp]; rfl
  obtain ⟨A0, n0, c0, rfl, hrd, hbl⟩ := hown.form
  have hl := hrd.len
  have hn : n0 ≤ 140737488355328 := by omega
  have H := Lib.hid hl
  clear hl
  go_enter Tryd.func39, Tryd.ntmps39
  go_wp2_with (go_at_call 59; refine (clone_any A0 n0 c0 xs _ hrd hn).mono ?_; rintro e w1 ⟨v, rfl, ho, hk, hf⟩)
  go_ret
  exact ⟨v, rfl, ho, hk, hf⟩
end Go.Proofs.YtibcjbelcplpjaaDoor
