/-
  Contract of the document's own bytes of a number. No statement of the seed is proved here.
-/
import Derived.Test.YtmhigipljplgdaaDoorPc
import Derived.Outline
namespace Go.Proofs.YtmhigipljplgdaaDoor
open Go.RowKit
set_option linter.unusedVariables false

theorem be_cons : ∀ (k x : Nat), be (k + 1) x = UInt8.ofNat (x / 256 ^ k) :: be k x
  | 0, x => by simp [be]
  | k + 1, x => by
    rw [be, be_cons k (x / 256), be, Nat.div_div_eq_div_mul, ← Nat.pow_succ']
    rfl
theorem set_rep (m : Nat) (b : UInt8) (l : List UInt8) : (List.replicate (m + 1) 0 ++ l).set m b = List.replicate m 0 ++ (b :: l) := by
  rw [List.replicate_succ', List.append_assoc, List.set_append_right _ _ (by simp)]
  simp

set_option maxRecDepth 100000 in
theorem rfBytes_any (x : Int) (n : Nat) (w : World) (h0 : 0 ≤ x) (h1 : x ≤ 18446744073709551615) (hn : n ≤ 8) :
    Calls Tryd.prog 25 #[.int .u64 x, .int .i64 n] w (CloneRet (be n x.toNat) w) := by
  obtain ⟨i0, hi, hz0, hz1, hz2⟩ := info_parts u8info
  go_enter Tryd.func25, Tryd.ntmps25
  go_wp2_with (refine wpList_make_bytes rfl (.tmp 7) (.tmp 7) 53 rfl 5 i0 Tryd.underlying53 hi hz0 hz1 hz2 _ _ _ _ n rfl rfl rfl rfl (by omega) ?_; intro w1 hown1 hk1)
  go_loopw [0, 6] (fun y i wr => ∃ (k : Nat) (z : Int), k ≤ n ∧ i = .int .i64 ((n : Int) - 1 - k) ∧ y = .int .u64 z ∧ 0 ≤ z ∧ z ≤ 18446744073709551615 ∧ z.toNat = x.toNat / 256 ^ k ∧ OwB 5 wr (.slice (some ⟨w.heap.size, 0, none⟩) n n) (List.replicate (n - k) 0 ++ be k x.toNat) ∧ Kept [] w wr) (fun _ i _ => (intOf i + 1).toNat)
  case atStart => exact ⟨0, x, by omega, by simp, rfl, h0, h1, by simp, by simpa [be] using hown1, hk1⟩
  case round =>
    obtain ⟨k, z, hk, rfl, rfl, z0, z1, hz, hown, hkw⟩ := hrel
    have HZ := Lib.hid hz
    clear hz
    by_cases hlt : k < n
    · have hfz := hown.fz (n - 1 - k)
      have hlt2 := hown.lt
      have hrd := hown.rd
      obtain ⟨b, off, y, e1, c1, _, _⟩ := hrd.byte (k := n - 1 - k) (by omega)
      simp only [Option.some.injEq, Addr.mk.injEq] at e1
      obtain ⟨rfl, rfl, _⟩ := e1
      rw [Nat.zero_add] at c1
      have hnew := hown.set (n - 1 - k) (UInt8.ofNat (x.toNat / 256 ^ k))
      have he : n - k = (n - 1 - k) + 1 := by omega
      rw [he, set_rep, ← be_cons] at hnew
      have hb : bcell (UInt8.ofNat (x.toNat / 256 ^ k)) = .int .u8 (z % 256) := by
        unfold bcell; rw [ofNat_toNat, ← HZ.out]; congr 1; omega
      rw [hb] at hnew
      have hkn : Kept [] w (wr.setCell ⟨w.heap.size, n - 1 - k, none⟩ (.int .u8 (z % 256))) := hkw.setCell (by simp) _
      clear hb he
      go_wp2
      go_roundw
      case rel =>
        refine ⟨k + 1, z / 256, by omega, congrArg _ (by omega), rfl, by omega, by omega, ?_, ?_, hkn⟩
        · have := HZ.out
          rw [Nat.pow_succ, ← Nat.div_div_eq_div_mul, ← this]; omega
        · have e : n - (k + 1) = n - 1 - k := by omega
          rw [e]; exact hnew
      case measure => simp [intOf]; omega
    · obtain rfl : k = n := by omega
      go_wp2
      go_ret
      exact ⟨_, rfl, by simpa using hown, hkw, by simp [Value.ownBlock]⟩

theorem ownBlock_new {e : TypeId} {w w' : World} {v v' : Value} {B : Nat} (hm : Moved w v v') (hB : B ≤ w.heap.size) (hv : ∀ g, v.ownBlock = some g → B ≤ g) : ∀ g, v'.ownBlock = some g → B ≤ g := by
  intro g hg
  rcases hm g hg with h | h
  · exact hv g h
  · omega

end Go.Proofs.YtmhigipljplgdaaDoor
