/-
  Contracts of the small functions of layer 2 (sha): a word turned, a word of bytes. No statement of the seed is proved here.
-/
import Derived.Test.YtckffideobjlfaaDoorChecked
import Derived.Test.YtckffideobjlfaaDoorMem
import Derived.Test.YtckffideobjlfaaDoorShaMath
import Derived.Outline
import Derived.Deep.QuietTactic
import Derived.BigQuiet
import Derived.Laws.BitsAllLaws
namespace Go.Proofs.YtckffideobjlfaaDoor
open Go.RowKit
set_option linter.unusedVariables false

theorem wv_shr (x : W32) (n : Nat) : wv x / 2 ^ n = wv (x >>> n) := by
  rw [wv_eq, wv_eq, BitVec.toNat_ushiftRight, Nat.shiftRight_eq_div_pow]
  have : ((2 : Int) ^ n) = ((2 ^ n : Nat) : Int) := by simp
  rw [this]
  omega
theorem wv_shl (x : W32) (n : Nat) : wv x * 2 ^ n % 4294967296 = wv (x <<< n) := by
  rw [wv_eq, wv_eq, BitVec.toNat_shiftLeft, Nat.shiftLeft_eq]
  have : ((2 : Int) ^ n) = ((2 ^ n : Nat) : Int) := by simp
  rw [this]
  omega
theorem bits_orW (x y : W32) : bits .or .u32 (wv x) (wv y) = wv (x ||| y) := by
  rw [wv_eq, wv_eq, wv_eq, BitVec.toNat_or]; exact u32_or_nat _ _ (by have := x.isLt; omega) (by have := y.isLt; omega)
theorem bits_andW (x y : W32) : bits .and .u32 (wv x) (wv y) = wv (x &&& y) := by
  rw [wv_eq, wv_eq, wv_eq, BitVec.toNat_and]; exact u32_and_nat _ _ (by have := x.isLt; omega) (by have := y.isLt; omega)
theorem bits_xorW (x y : W32) : bits .xor .u32 (wv x) (wv y) = wv (x ^^^ y) := by
  rw [wv_eq, wv_eq, wv_eq, BitVec.toNat_xor]; exact u32_xor_nat _ _ (by have := x.isLt; omega) (by have := y.isLt; omega)

theorem turn_any (x : W32) (n : Nat) (w : World) (h1 : 1 ≤ n) (h2 : n < 32) :
    Calls Tryd.prog 54 #[.int .u32 (wv x), .int .i64 n] w fun e w' => e = .returned (.int .u32 (wv (rotr x n))) ∧ ∃ m, w' = w.drewN m := by
  have b0 := wv_nonneg x
  have b1 := wv_lt x
  go_enter Tryd.func54, Tryd.ntmps54
  go_wp2
  go_quiet (fail)
  go_wp2
  go_ret
  exact ⟨ret_int (by rw [wv_shr, wv_shl, bits_orW]; rfl), nq, rfl⟩
theorem turn_at (x : W32) (n : Nat) (z : Int) (w : World) (hz : z = (n : Int)) (h1 : 1 ≤ n) (h2 : n < 32) :
    Calls Tryd.prog 54 #[.int .u32 (wv x), .int .i64 z] w fun e w' => e = .returned (.int .u32 (wv (rotr x n))) ∧ ∃ m, w' = w.drewN m := by
  subst hz; exact turn_any x n w h1 h2

theorem word4 (a b c d : UInt8) : bits .or .u32 (bits .or .u32 (bits .or .u32 ((a.toNat : Int) * 16777216) ((b.toNat : Int) * 65536)) ((c.toNat : Int) * 256)) (d.toNat : Int) = wv (wd [a, b, c, d]) := by
  have ha := a.toNat_lt
  have hb := b.toNat_lt
  have hc := c.toNat_lt
  have hd := d.toNat_lt
  have e1 : ((a.toNat : Int) * 16777216) = ((a.toNat * 16777216 : Nat) : Int) := by omega
  have e2 : ((b.toNat : Int) * 65536) = ((b.toNat * 65536 : Nat) : Int) := by omega
  have e3 : ((c.toNat : Int) * 256) = ((c.toNat * 256 : Nat) : Int) := by omega
  rw [e1, e2, e3, u32_or_nat _ _ (by omega) (by omega), nat_join 24 _ _ (by omega) (by omega), u32_or_nat _ _ (by omega) (by omega), nat_join 16 _ _ (by omega) (by omega), u32_or_nat _ _ (by omega) (by omega), nat_join 8 _ _ (by omega) (by omega)]
  unfold wd
  rw [wv_ofNat]
  · simp [num]; omega
  · simp [num]; omega

theorem word_any (A : Option Addr) (n c : Nat) (bs : List UInt8) (w : World) (hr : RdB w A n c bs) (hn : 4 ≤ n) :
    Calls Tryd.prog 55 #[.slice A n c] w fun e w' => e = .returned (.int .u32 (wv (wd bs))) ∧ ∃ m, w' = w.drewN m := by
  obtain ⟨b0, off, y0, rfl, c0, h0, l0⟩ := hr.byte (k := 0) (by omega)
  obtain ⟨_, _, y1, e1, c1, h1, l1⟩ := hr.byte (k := 1) (by omega)
  obtain ⟨rfl, rfl⟩ : _ ∧ _ := by simpa using e1
  obtain ⟨_, _, y2, e2, c2, h2, l2⟩ := hr.byte (k := 2) (by omega)
  obtain ⟨rfl, rfl⟩ : _ ∧ _ := by simpa using e2
  obtain ⟨_, _, y3, e3, c3, h3, l3⟩ := hr.byte (k := 3) (by omega)
  obtain ⟨rfl, rfl⟩ : _ ∧ _ := by simpa using e3
  have hw4 : wd bs = wd [y0, y1, y2, y3] := by
    match bs, h0, h1, h2, h3 with
    | a :: b :: c :: d :: r, h0, h1, h2, h3 =>
      simp at h0 h1 h2 h3
      subst h0 h1 h2 h3
      simp [wd]
  have hcap := hr.cap
  rw [hw4]
  rw [Nat.add_zero] at c0
  clear e1 e2 e3 h0 h1 h2 h3 hw4
  go_enter Tryd.func55, Tryd.ntmps55
  go_wp2
  go_quiet (fail)
  go_wp2
  go_ret
  exact ⟨ret_int (word4 _ _ _ _), nq, rfl⟩
end Go.Proofs.YtckffideobjlfaaDoor
