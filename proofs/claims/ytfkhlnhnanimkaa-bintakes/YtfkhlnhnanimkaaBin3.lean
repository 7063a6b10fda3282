/-
  Contracts of the writer's functions of layer 1 (bin), over this seat's program, going on. No statement of the seed is proved here.
-/
import Derived.Test.YtfkhlnhnanimkaaBin2
namespace Go.Proofs.Ytfkhlnhnanimkaa
open Go.RowKit
set_option linter.unusedVariables false

theorem byte_of (x : Int) (h0 : 0 ≤ x) (d : Nat) : x / 2 ^ d % 256 = ((UInt8.ofNat (x.toNat / 2 ^ d)).toNat : Int) := by
  obtain ⟨n, rfl⟩ := Int.eq_ofNat_of_zero_le h0
  rw [ofNat_toNat, Int.toNat_natCast]
  have : ((2 : Int) ^ d) = ((2 ^ d : Nat) : Int) := by simp
  rw [this]
  omega
theorem be_step (x n k : Nat) (h : k < n) : be (k + 1) (x / 256 ^ (n - (k + 1))) = be k (x / 256 ^ (n - k)) ++ [UInt8.ofNat (x / 2 ^ (8 * (n - 1 - k)))] := by
  have e1 : n - k = (n - (k + 1)) + 1 := by omega
  have e2 : n - 1 - k = n - (k + 1) := by omega
  rw [be, e1, e2, Nat.pow_succ, Nat.div_div_eq_div_mul, Nat.pow_mul]

theorem putNumber_any (p : Nat) (F : List Nat) (xs : List UInt8) (x : Int) (n : Nat) (w : World) (hw : Wri w p F xs) (h0 : 0 ≤ x) (h1 : x ≤ 18446744073709551615) (hn : n ≤ 8) (hb : xs.length ≤ 140737488355000) :
    Calls Try.prog 30 #[.pointer (some ⟨p, 0, none⟩), .int .u64 x, .int .i64 n] w (PutRet p F xs (be n x.toNat) w (.tuple #[])) := by
  go_enter Try.func30, Try.ntmps30
  go_wp2
  go_loopw [8] (fun i wr => ∃ (k : Nat) (F' : List Nat), k ≤ n ∧ i = .int .i64 k ∧ Puts p F xs (be k (x.toNat / 256 ^ (n - k))) w wr F') (fun i _ => n - (intOf i).toNat)
  case atStart => exact ⟨0, F, by omega, rfl, Puts.refl hw⟩
  case round =>
    obtain ⟨k, F', hk, rfl, hP⟩ := hrel
    by_cases hlt : k < n
    · have hl := be_length k (x.toNat / 256 ^ (n - k))
      go_wp2_with fail
      refine (put_any p F' _ _ 1 1 [UInt8.ofNat (x.toNat / 2 ^ (8 * (n - 1 - k)))] _ (hP.wri.alloc _) (RdB.one _ _ _ _ (byte_of x h0 _)) (by rw [List.length_append, hl]; omega)).mono ?_
      rintro e w1 ⟨rfl, F1, hP1⟩
      go_wp2
      go_roundw
      case rel => exact ⟨k + 1, F1, by omega, by go_num, by rw [be_step _ _ _ hlt]; exact hP.trans hP1.alloc⟩
      case measure => simp [intOf]; omega
    · have : k = n := by omega
      subst this
      go_wp2
      go_end0
      exact ⟨rfl, F', by simpa using hP⟩

theorem putSmall_any (p : Nat) (F : List Nat) (xs : List UInt8) (x : Int) (w : World) (hw : Wri w p F xs) (h0 : 0 ≤ x) (h1 : x ≤ 18446744073709551615) (hb : xs.length ≤ 140737488354000) :
    Calls Try.prog 32 #[.pointer (some ⟨p, 0, none⟩), .int .u64 x] w (PutRet p F xs (sm x.toNat) w (.tuple #[])) := by
  by_cases h : x ≤ 250
  · have hs : sm x.toNat = [UInt8.ofNat x.toNat] := by unfold sm; rw [if_pos (by omega)]
    rw [hs]
    clear hs
    go_enter Try.func32, Try.ntmps32
    go_wp2_with fail
    refine (follow_lo x _ h0 h).mono ?_
    rintro e w1 ⟨rfl, rfl⟩
    go_wp2_with fail
    refine (put_any p F _ _ 1 1 [UInt8.ofNat x.toNat] _ (hw.alloc _) (RdB.one _ _ _ _ (by rw [ofNat_toNat]; omega)) (by omega)).mono ?_
    rintro e w1 ⟨rfl, F1, hP1⟩
    go_wp2
    refine bodyPost_ret (results_none rfl _ _ _) rfl ?_
    exact ⟨rfl, F1, hP1.alloc⟩
  · have hw8 := wid_pos x.toNat
    have hne : ((wid x.toNat : Int) == 0) = false := by simp; omega
    have hs : sm x.toNat = [UInt8.ofNat (250 + wid x.toNat)] ++ be (wid x.toNat) x.toNat := by unfold sm; rw [if_neg (by omega)]; rfl
    rw [hs]
    clear hs
    go_enter Try.func32, Try.ntmps32
    go_wp2_with fail
    refine (follow_hi x _ (by omega) h1).mono ?_
    rintro e w1 ⟨rfl, rfl⟩
    go_wp2_with fail
    refine (put_any p F _ _ 1 1 [UInt8.ofNat (250 + wid x.toNat)] _ (hw.alloc _) (RdB.one _ _ _ _ (by rw [ofNat_toNat]; omega)) (by omega)).mono ?_
    rintro e w1 ⟨rfl, F1, hP1⟩
    go_wp2_with fail
    refine (putNumber_any p F1 _ x _ _ hP1.wri h0 h1 (by omega) (by rw [List.length_append, List.length_singleton]; omega)).mono ?_
    rintro e w2 ⟨rfl, F2, hP2⟩
    go_wp2
    go_end0
    exact ⟨rfl, F2, hP1.alloc.trans hP2⟩
end Go.Proofs.Ytfkhlnhnanimkaa
