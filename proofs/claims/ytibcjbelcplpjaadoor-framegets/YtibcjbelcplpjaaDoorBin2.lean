/-
  Contracts of the writer's functions of layer 1 (bin), over this seat's program, going on. No statement of the seed is proved here.
-/
import Derived.Test.YtibcjbelcplpjaaDoorBin1
import Derived.Test.YtibcjbelcplpjaaDoorPd
import Derived.Lib.Strings
import Derived.Lib.Small
import Derived.Lib.Walk
import Derived.Lib.BitFns
namespace Go.Proofs.YtibcjbelcplpjaaDoor
open Go.RowKit
set_option linter.unusedVariables false

theorem tab_byte : ∀ k : Fin 256, (Lib.len8tab.data.toList.getD k.val 0).toNat ≤ 8 ∧ (1 ≤ k.val → 1 ≤ (Lib.len8tab.data.toList.getD k.val 0).toNat) := by decide +kernel
theorem len8_size : Lib.len8tab.size = 256 := by decide +kernel
theorem bytes_at (b : ByteArray) (k : Nat) (h : k < b.size) : b[k] = b.data.toList.getD k 0 := by
  have h3 : k < b.data.size := h
  show b.data[k] = _
  rw [List.getD_eq_getElem?_getD, Array.getElem?_toList, Array.getElem?_eq_getElem h3]; rfl
theorem tab_at (k : Nat) (h : k < Lib.len8tab.size) : Lib.len8tab[k].toNat ≤ 8 ∧ (1 ≤ k → 1 ≤ Lib.len8tab[k].toNat) := by
  have h2 : k < 256 := by have := len8_size; omega
  rw [bytes_at _ k h]
  exact tab_byte ⟨k, h2⟩

/-- What a count of bits has to do with the bytes. -/
def LenIs (x l : Int) : Prop := 0 ≤ l ∧ l ≤ 64 ∧ (1 ≤ x → 8 * (wid x.toNat : Int) - 7 ≤ l ∧ l ≤ 8 * (wid x.toNat : Int))
theorem len_close (x c : Int) (k : Nat) (hk : k < Lib.len8tab.size) (h1 : 1 ≤ x → 1 ≤ k) (h0 : 0 ≤ c) (h5 : c ≤ 56) (hw : 1 ≤ x → c = 8 * (wid x.toNat : Int) - 8) :
    LenIs x (wrap64 (c + wrap64 (Lib.len8tab[k].toNat : Int))) := by
  obtain ⟨t1, t2⟩ := tab_at k hk
  rw [IntWalk.wrap64_in (Lib.len8tab[k].toNat : Int) (by omega), IntWalk.wrap64_in _ (by omega)]
  refine ⟨by omega, by omega, fun hx => ?_⟩
  have := h1 hx
  have := hw hx
  have := t2 (by omega)
  omega
theorem len_close0 (x : Int) (k : Nat) (hk : k < Lib.len8tab.size) (h1 : 1 ≤ x → 1 ≤ k) (hw : 1 ≤ x → 0 = 8 * (wid x.toNat : Int) - 8) : LenIs x (wrap64 (wrap64 (Lib.len8tab[k].toNat : Int))) := by
  have := len_close x 0 k hk h1 (by omega) (by omega) hw
  rwa [Int.zero_add] at this

def LenRet (x : Int) (w : World) (e : Ending) (w' : World) : Prop := ∃ l : Int, LenIs x l ∧ e = .returned (.int .i64 l) ∧ w = w'

set_option maxRecDepth 100000 in
set_option maxHeartbeats 1000000 in
theorem len64_any (x : Int) (w : World) (h0 : 0 ≤ x) (h1 : x ≤ 18446744073709551615) : Calls Tryd.prog 83 #[.int .u64 x] w (LenRet x w) := by
  have hsz := len8_size
  go_enter Tryd.func83, Tryd.ntmps83
  go_wp2
  all_goals go_ret
  all_goals refine ⟨_, ?_, rfl, rfl⟩
  all_goals first
    | (refine len_close x _ _ _ (by omega) (by omega) (by omega) (fun _ => ?_); unfold wid; split <;> (try split) <;> (try split) <;> (try split) <;> (try split) <;> (try split) <;> (try split) <;> omega)
    | (refine len_close0 x _ _ (by omega) (fun _ => ?_); unfold wid; split <;> (try split) <;> (try split) <;> (try split) <;> (try split) <;> (try split) <;> (try split) <;> omega)

theorem follow_lo (x : Int) (w : World) (h0 : 0 ≤ x) (h1 : x ≤ 250) : Calls Tryd.prog 69 #[.int .u64 x] w fun e w' => e = .returned (.int .i64 0) ∧ w = w' := by
  go_enter Tryd.func69, Tryd.ntmps69
  go_wp2
  go_ret
  exact ⟨rfl, rfl⟩
theorem follow_hi (x : Int) (w : World) (h : 250 < x) (h1 : x ≤ 18446744073709551615) : Calls Tryd.prog 69 #[.int .u64 x] w fun e w' => e = .returned (.int .i64 (wid x.toNat)) ∧ w = w' := by
  go_enter Tryd.func69, Tryd.ntmps69
  go_wp2_with (go_at_call 83; refine (len64_any _ _ (by omega) (by omega)).mono ?_; rintro e w' ⟨l, hl, rfl, rfl⟩; obtain ⟨l0, l1, l2⟩ := hl)
  go_ret
  refine ⟨ret_int ?_, rfl⟩
  have := l2 (by omega)
  omega
end Go.Proofs.YtibcjbelcplpjaaDoor
