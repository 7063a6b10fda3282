/-
  Contracts of the writer's functions of layer 1 (bin), over this seat's program: what the document lists. No statement of the seed is proved here.
-/
import Derived.Test.YtfkhlnhnanimkaaBin3
import Derived.WalkSpells
namespace Go.Proofs.Ytfkhlnhnanimkaa
open Go.RowKit
set_option linter.unusedVariables false

/-- A new byte slice that holds bs. -/
def CloneRet (bs : List UInt8) (w : World) (e : Ending) (w' : World) : Prop :=
  ∃ v, e = .returned v ∧ OwB 5 w' v bs ∧ Kept [] w w' ∧ ∀ g, v.ownBlock = some g → w.heap.size ≤ g

theorem clone_any (A : Option Addr) (n c : Nat) (bs : List UInt8) (w : World) (hr : RdB w A n c bs) (hn : n ≤ 140737488355328) :
    Calls Try.prog 34 #[.slice A n c] w (CloneRet bs w) := by
  obtain ⟨i0, hi, hz0, hz1, hz2⟩ := info_parts u8info
  rcases A with _ | a
  · have hb : bs = [] := by
      have hl := hr.len
      rcases Nat.eq_zero_or_pos n with h0 | h0
      · exact List.eq_nil_of_length_eq_zero (by omega)
      · obtain ⟨b, off, e, _⟩ := hr.cells h0
        cases e
    subst hb
    have hnil := @Lib.run_eql_slice_nil Try.prog
    go_enter Try.func34, Try.ntmps34
    go_wp2
    go_ret
    exact ⟨_, rfl, OwB.nil _ _, Kept.refl _ _, by simp [Value.ownBlock]⟩
  · have hnil := @Lib.run_eql_slice_nil Try.prog
    have hown : OwB 5 (w.alloc (.cells #[] 5)) (.slice (some ⟨w.heap.size, 0, none⟩) 0 0) [] := by
      have := World.ownsRow_lit (base := 0) (e := 5) (size := 1) w #[] 0 (Nat.zero_le _) (by simp [maxLen]) rfl
      simpa [OwB, bvs] using this
    go_enter Try.func34, Try.ntmps34
    go_wp2_with (at_builtin; refine wpList_append_bytes rfl (.tmp 5) (.tmp 6) 25 rfl 5 i0 _ 1 Try.underlying25 hi hz0 hz1 hz2 rfl (.slice (some ⟨w.heap.size, 0, none⟩) 0 0) [] rfl hown (some a) n c bs rfl (hr.alloc _) (by simp only [maxLen, List.length_nil]; omega) (by simp only [List.length_nil]; omega) ?_; intro v1 w1 hown1 hk1 hm1)
    go_ret
    refine ⟨_, rfl, by simpa using hown1, ?_, ?_⟩
    · exact ((Kept.refl [] w).alloc _).trans hk1 (by simp [Value.ownBlock])
    · intro g hg
      rcases hm1 g hg with h | h
      · simp [Value.ownBlock] at h; omega
      · simp at h; omega

theorem widthRight_yes (n : Int) (w : World) (h1 : 1 ≤ n) (h8 : n ≤ 8) : Calls Try.prog 29 #[.int .i64 n] w fun e w' => e = .returned (.bool true) ∧ w = w' := by
  go_enter Try.func29, Try.ntmps29
  go_wp2
  go_ret
  exact ⟨rfl, rfl⟩
theorem widthRight_no (n : Int) (w : World) (h1 : n < 1 ∨ 8 < n) : Calls Try.prog 29 #[.int .i64 n] w fun e w' => e = .returned (.bool false) ∧ w = w' := by
  rcases h1 with h | h
  · have hd : decide (1 ≤ n) = false := by simp; omega
    go_enter Try.func29, Try.ntmps29
    go_wp2
    go_ret
    exact ⟨rfl, rfl⟩
  · have hd : decide (n ≤ 8) = false := by simp; omega
    go_enter Try.func29, Try.ntmps29
    go_wp2
    go_ret
    exact ⟨rfl, rfl⟩

theorem shift_zero (x : Int) (n : Nat) (h0 : 0 ≤ x) (h : x.toNat < 256 ^ n) : x / 2 ^ (8 * n) = 0 := by
  obtain ⟨m, rfl⟩ := Int.eq_ofNat_of_zero_le h0
  have e : ((2 : Int) ^ (8 * n)) = ((256 ^ n : Nat) : Int) := by rw [Int.pow_mul]; simp
  rw [e]
  rw [Int.toNat_natCast] at h
  rw [← Int.natCast_ediv, Nat.div_eq_of_lt h]; rfl
theorem shift_more (x : Int) (n : Nat) (h0 : 0 ≤ x) (h : 256 ^ n ≤ x.toNat) : x / 2 ^ (8 * n) ≠ 0 := by
  obtain ⟨m, rfl⟩ := Int.eq_ofNat_of_zero_le h0
  have e : ((2 : Int) ^ (8 * n)) = ((256 ^ n : Nat) : Int) := by rw [Int.pow_mul]; simp
  rw [e]
  rw [Int.toNat_natCast] at h
  rw [← Int.natCast_ediv]
  have : 0 < m / 256 ^ n := Nat.div_pos h (Nat.pow_pos (by omega))
  omega

theorem wNum_nil (x n : Int) (w : World) : Calls Try.prog 11 #[.pointer none, .int .u64 x, .int .i64 n] w fun e w' => e = .returned (.int .i64 15) ∧ w = w' := by
  go_enter Try.func11, Try.ntmps11
  go_wp2
  go_ret
  exact ⟨rfl, rfl⟩
theorem wNum_arg (p : Nat) (x n : Int) (w : World) (hn : n < 1 ∨ 8 < n) : Calls Try.prog 11 #[.pointer (some ⟨p, 0, none⟩), .int .u64 x, .int .i64 n] w fun e w' => e = .returned (.int .i64 14) ∧ w = w' := by
  go_enter Try.func11, Try.ntmps11
  go_wp2_with (go_at_call 29; refine (widthRight_no _ _ hn).mono ?_; rintro e w' ⟨rfl, rfl⟩)
  go_ret
  exact ⟨rfl, rfl⟩
theorem wNum_range (p : Nat) (x : Int) (n : Nat) (w : World) (h0 : 0 ≤ x) (h1 : x ≤ 18446744073709551615) (hn1 : 1 ≤ n) (hn8 : n ≤ 8) (hx : 256 ^ n ≤ x.toNat) :
    Calls Try.prog 11 #[.pointer (some ⟨p, 0, none⟩), .int .u64 x, .int .i64 n] w fun e w' => e = .returned (.int .i64 3) ∧ w = w' := by
  have hne : (x / 2 ^ (8 * n) != 0) = true := by simpa using shift_more x n h0 hx
  go_enter Try.func11, Try.ntmps11
  go_wp2_with (go_at_call 29; refine (widthRight_yes _ _ (by omega) (by omega)).mono ?_; rintro e w' ⟨rfl, rfl⟩)
  go_ret
  exact ⟨rfl, rfl⟩
theorem wNum_any (p : Nat) (F : List Nat) (xs : List UInt8) (x : Int) (n : Nat) (w : World) (hw : Wri w p F xs) (h0 : 0 ≤ x) (h1 : x ≤ 18446744073709551615) (hn1 : 1 ≤ n) (hn8 : n ≤ 8) (hx : x.toNat < 256 ^ n) (hb : xs.length ≤ 140737488355000) :
    Calls Try.prog 11 #[.pointer (some ⟨p, 0, none⟩), .int .u64 x, .int .i64 n] w (PutRet p F xs (be n x.toNat) w (.int .i64 0)) := by
  have hne : x / 2 ^ (8 * n) = 0 := shift_zero x n h0 hx
  go_enter Try.func11, Try.ntmps11
  go_wp2_with (first | (go_at_call 29; refine (widthRight_yes _ _ (by omega) (by omega)).mono ?_; rintro e w' ⟨rfl, rfl⟩) | (go_at_call 30; refine (putNumber_any p F _ x n _ hw h0 h1 (by omega) hb).mono ?_; rintro e w1 ⟨rfl, F1, hP1⟩))
  go_ret
  exact ⟨rfl, F1, hP1⟩

theorem wSmall_nil (x : Int) (w : World) : Calls Try.prog 13 #[.pointer none, .int .u64 x] w fun e w' => e = .returned (.int .i64 15) ∧ w = w' := by
  go_enter Try.func13, Try.ntmps13
  go_wp2
  go_ret
  exact ⟨rfl, rfl⟩
theorem wSmall_range (p : Nat) (x : Int) (w : World) (h0 : 4294967296 ≤ x) : Calls Try.prog 13 #[.pointer (some ⟨p, 0, none⟩), .int .u64 x] w fun e w' => e = .returned (.int .i64 3) ∧ w = w' := by
  go_enter Try.func13, Try.ntmps13
  go_wp2
  go_ret
  exact ⟨rfl, rfl⟩
theorem wSmall_any (p : Nat) (F : List Nat) (xs : List UInt8) (x : Int) (w : World) (hw : Wri w p F xs) (h0 : 0 ≤ x) (h1 : x ≤ 4294967295) (hb : xs.length ≤ 140737488354000) :
    Calls Try.prog 13 #[.pointer (some ⟨p, 0, none⟩), .int .u64 x] w (PutRet p F xs (sm x.toNat) w (.int .i64 0)) := by
  go_enter Try.func13, Try.ntmps13
  go_wp2_with (go_at_call 32; refine (putSmall_any p F _ x _ hw h0 (by omega) hb).mono ?_; rintro e w1 ⟨rfl, F1, hP1⟩)
  go_ret
  exact ⟨rfl, F1, hP1⟩

theorem wText_nil (A : Option Addr) (n c : Nat) (w : World) : Calls Try.prog 15 #[.pointer none, .slice A n c] w fun e w' => e = .returned (.int .i64 15) ∧ w = w' := by
  go_enter Try.func15, Try.ntmps15
  go_wp2
  go_ret
  exact ⟨rfl, rfl⟩
theorem wText_full (p : Nat) (A : Option Addr) (n c : Nat) (w : World) (h : 65536 < n) : Calls Try.prog 15 #[.pointer (some ⟨p, 0, none⟩), .slice A n c] w fun e w' => e = .returned (.int .i64 7) ∧ w = w' := by
  go_enter Try.func15, Try.ntmps15
  go_wp2
  go_ret
  exact ⟨rfl, rfl⟩
theorem wText_any (p : Nat) (F : List Nat) (xs : List UInt8) (A : Option Addr) (n c : Nat) (bs : List UInt8) (w : World) (hw : Wri w p F xs) (hr : RdB w A n c bs) (hoff : 0 < n → Off A F) (hn : n ≤ 65536) (hb : xs.length ≤ 140737488200000) :
    Calls Try.prog 15 #[.pointer (some ⟨p, 0, none⟩), .slice A n c] w (PutRet p F xs (sm n ++ bs) w (.int .i64 0)) := by
  have hs := sm_length n
  have hf : fol n ≤ 8 := by unfold fol; split; omega; exact (wid_pos n).2
  go_enter Try.func15, Try.ntmps15
  go_wp2_with fail
  refine (putSmall_any p F _ n _ hw (by omega) (by omega) (by omega)).mono ?_
  rw [Int.toNat_natCast]
  rintro e w1 ⟨rfl, F1, hP1⟩
  go_wp2_with fail
  refine (put_any p F1 _ A n c bs _ hP1.wri (hr.keptIf hP1.kept hoff) (by rw [List.length_append]; omega)).mono ?_
  rintro e w2 ⟨rfl, F2, hP2⟩
  go_wp2
  go_ret
  exact ⟨rfl, F2, hP1.trans hP2⟩

theorem wOut_nil (w : World) : Calls Try.prog 18 #[.pointer none] w fun e w' => e = .returned (.slice none 0 0) ∧ w = w' := by
  go_enter Try.func18, Try.ntmps18
  go_wp2
  go_ret
  exact ⟨rfl, rfl⟩
theorem wOut_any (p : Nat) (F : List Nat) (xs : List UInt8) (w : World) (hw : Wri w p F xs) (hb : xs.length ≤ 140737488355328) :
    Calls Try.prog 18 #[.pointer (some ⟨p, 0, none⟩)] w (CloneRet xs w) := by
  obtain ⟨v, hp, hown, rfl⟩ := hw
  have hc : w.cell? ⟨p, 0, none⟩ = some v := by rw [cell_of_row w p 0 _ _ _ hp]; rfl
  obtain ⟨A0, n0, c0, rfl, hrd, hbl⟩ := hown.form
  have hl := hrd.len
  have hn : n0 ≤ 140737488355328 := by omega
  have H := Lib.hid hl
  clear hl
  go_enter Try.func18, Try.ntmps18
  go_wp2_with (go_at_call 34; refine (clone_any A0 n0 c0 xs _ hrd hn).mono ?_; rintro e w1 ⟨v, rfl, ho, hk, hf⟩)
  go_ret
  exact ⟨v, rfl, ho, hk, hf⟩
end Go.Proofs.Ytfkhlnhnanimkaa
