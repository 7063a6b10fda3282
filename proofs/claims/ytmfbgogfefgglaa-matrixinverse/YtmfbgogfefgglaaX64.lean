/-
  Helper words on bytes in numbers of 64 bits: the walk's own spellings. No statement of the seed is proved here.
-/
import Derived.Test.YtmfbgogfefgglaaWd
import Derived.Test.YtmfbgogfefgglaaLift
namespace Go.Proofs.Ytmfbgogfefgglaa
open Go.RowKit
set_option linter.unusedVariables false

theorem i64_xor_nat (a b : Nat) (ha : a < 9223372036854775808) (hb : b < 9223372036854775808) : bits .xor .i64 (a : Int) (b : Int) = ((a ^^^ b : Nat) : Int) := by
  have hx : a ^^^ b < 2 ^ 63 := Nat.xor_lt_two_pow (by omega) (by omega)
  show IntKind.i64.wrap ((BitVec.ofInt 64 (a : Int) ^^^ BitVec.ofInt 64 (b : Int)).toNat : Int) = _
  rw [BitVec.toNat_xor, ofInt_u64 a (by omega), ofInt_u64 b (by omega), IntWalk.i64_in _ (by omega)]
theorem xorB64 (x y : UInt8) : bits .xor .i64 (x.toNat : Int) (y.toNat : Int) = ((x ^^^ y).toNat : Int) := by
  have := x.toNat_lt
  have := y.toNat_lt
  rw [UInt8.toNat_xor]; exact i64_xor_nat _ _ (by omega) (by omega)
theorem half8 (n : UInt8) : (n.toNat : Int) / 2 = ((n / 2).toNat : Int) := by
  rw [UInt8.toNat_div]; rfl
theorem odd8 (n : UInt8) : n % 2 = 1 ↔ n.toNat % 2 = 1 := by
  rw [← UInt8.toNat_inj, UInt8.toNat_mod]; rfl
theorem byte_of_int {a : Int} (h : (Lit.int .u8 a).wf = true) : ∃ x : UInt8, a = (x.toNat : Int) := ⟨_, zs_byte a h⟩
end Go.Proofs.Ytmfbgogfefgglaa
