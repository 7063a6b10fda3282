/-
  Contracts of the document's own answers of layer 1: a number that is taken. No statement of the seed is proved here.
-/
import Derived.Test.YtmhigipljplgdaaDoorR1b
namespace Go.Proofs.YtmhigipljplgdaaDoor
open Go.RowKit
set_option linter.unusedVariables false

theorem rfNumber_any (A : Option Addr) (n c : Nat) (bs : List UInt8) (a m : Nat) (w : World) (hr : RdB w A n c bs) (hm : m ≤ 8) (ha : a + m ≤ n) (hn : n ≤ 1000000) :
    Calls Tryd.prog 38 #[.slice A n c, .int .i64 a, .int .i64 m] w fun e w' => e = .returned (.int .u64 (num ((bs.drop a).take m))) ∧ w = w' := by
  go_enter Tryd.func38, Tryd.ntmps38
  go_wp2
  go_loop [7, 8] (fun x i => ∃ k : Nat, k ≤ m ∧ i = .int .i64 k ∧ x = .int .u64 (num ((bs.drop a).take k))) (fun _ i => m - (intOf i).toNat)
  case atStart => exact ⟨0, by omega, rfl, rfl⟩
  case round =>
    obtain ⟨k, hk, rfl, rfl⟩ := hrel
    by_cases hlt : k < m
    · have hx : num ((bs.drop a).take k) < 72057594037927936 := by
        have hb := num_lt ((bs.drop a).take k)
        have h2 : (256 : Nat) ^ ((bs.drop a).take k).length ≤ 256 ^ 7 := Nat.pow_le_pow_right (by omega) (by rw [List.length_take]; omega)
        omega
      obtain ⟨b, off, y, rfl, c1, hy1, hy⟩ := hr.byte (k := a + k) (by omega)
      have hts : num ((bs.drop a).take (k + 1)) = num ((bs.drop a).take k) * 256 + y.toNat := by
        rw [take_step _ _ _ (by rw [List.getElem?_drop]; exact hy1), num_snoc]
      have H := Lib.hid hts
      clear hts hy1
      generalize num ((bs.drop a).take k) = x at *
      go_wp2
      go_round
      case rel => exact ⟨k + 1, by omega, by go_num, by rw [H.out]; congr 1; omega⟩
      case measure => simp [intOf]; omega
    · obtain rfl : k = m := by omega
      go_wp2
      go_ret
      exact ⟨rfl, rfl⟩

theorem rfNumber_at (A : Option Addr) (n c : Nat) (bs : List UInt8) (a m : Nat) (z y : Int) (w : World) (hr : RdB w A n c bs) (hz : z = (a : Int)) (hy : y = (m : Int)) (hm : m ≤ 8) (ha : a + m ≤ n) (hn : n ≤ 1000000) :
    Calls Tryd.prog 38 #[.slice A n c, .int .i64 z, .int .i64 y] w fun e w' => e = .returned (.int .u64 (num ((bs.drop a).take m))) ∧ w = w' := by
  subst hz hy
  exact rfNumber_any A n c bs a m w hr hm ha hn

/-- What the document's own answer of a take is. -/
def GotRet (x : Nat) (t : List UInt8) (d er : Nat) (w : World) (e : Ending) (w' : World) : Prop :=
  ∃ v, e = .returned (.agg #[.int .u64 x, v, .int .i64 d, .int .i64 er]) ∧ OwB 5 w' v t ∧ Kept [] w w' ∧ ∀ g, v.ownBlock = some g → w.heap.size ≤ g
theorem got_nil (x d er : Nat) {w w' : World} {e : Ending} (he : e = .returned (.agg #[.int .u64 x, .slice none 0 0, .int .i64 d, .int .i64 er])) (hk : Kept [] w w') : GotRet x [] d er w e w' :=
  ⟨_, he, OwB.nil _ _, hk, by simp [Value.ownBlock]⟩

theorem rfTakeNum_any (A : Option Addr) (n c : Nat) (bs : List UInt8) (a : Nat) (m : Int) (w : World) (hr : RdB w A n c bs) (ha : a ≤ n) (hn : n ≤ 1000000) :
    Calls Tryd.prog 34 #[.slice A n c, .int .i64 a, .int .i64 m] w (GotRet (tnum (bs.drop a) m).1 [] (tnum (bs.drop a) m).2.1 (tnum (bs.drop a) m).2.2 w) := by
  by_cases hm : m < 1 ∨ 8 < m
  · have ht : tnum (bs.drop a) m = (0, 0, 14) := by unfold tnum; rw [if_pos hm]
    rw [ht]
    clear ht
    rcases hm with hm | hm
    · go_enter Tryd.func34, Tryd.ntmps34
      go_wp2
      exact bodyPost_ret (v := .agg #[.int .u64 0, .slice none 0 0, .int .i64 0, .int .i64 14]) (by simp [results, Tryd.results34, go_sem]) rfl (got_nil 0 0 14 rfl ((Kept.refl _ _).alloc _))
    · have hd : decide (m < 1) = false := by simp; omega
      have hd2 : decide (8 < m) = true := by simp; omega
      go_enter Tryd.func34, Tryd.ntmps34
      go_wp2
      exact bodyPost_ret (v := .agg #[.int .u64 0, .slice none 0 0, .int .i64 0, .int .i64 14]) (by simp [results, Tryd.results34, go_sem]) rfl (got_nil 0 0 14 rfl ((Kept.refl _ _).alloc _))
  · obtain ⟨k, rfl⟩ := Int.eq_ofNat_of_zero_le (show 0 ≤ m by omega)
    have hd : decide ((k : Int) < 1) = false := by simp; omega
    have hd2 : decide (8 < (k : Int)) = false := by simp; omega
    have hl := hr.len
    by_cases hs : (bs.drop a).length < k
    · have ht : tnum (bs.drop a) k = (0, 0, 1) := by unfold tnum; rw [if_neg hm, if_pos (by simpa using hs)]
      rw [ht]
      rw [List.length_drop] at hs
      have hg : (n : Int) - (a : Int) < (k : Int) := by omega
      clear ht hl
      go_enter Tryd.func34, Tryd.ntmps34
      go_wp2
      exact bodyPost_ret (v := .agg #[.int .u64 0, .slice none 0 0, .int .i64 0, .int .i64 1]) (by simp [results, Tryd.results34, go_sem]) rfl (got_nil 0 0 1 rfl ((Kept.refl _ _).alloc _))
    · have ht : tnum (bs.drop a) k = (num ((bs.drop a).take k), k, 0) := by unfold tnum; rw [if_neg hm, if_neg (by simpa using hs)]; simp
      rw [ht]
      rw [List.length_drop] at hs
      have hg : (k : Int) ≤ (n : Int) - (a : Int) := by omega
      clear ht hl
      go_enter Tryd.func34, Tryd.ntmps34
      go_wp2_with (go_at_call 38; refine (rfNumber_any A n c bs a k _ (hr.alloc _) (by omega) (by omega) hn).mono ?_; rintro e w' ⟨rfl, rfl⟩)
      exact bodyPost_ret (v := .agg #[.int .u64 (num ((bs.drop a).take k)), .slice none 0 0, .int .i64 k, .int .i64 0]) (by simp [results, Tryd.results34, go_sem]) rfl (got_nil _ _ 0 rfl ((Kept.refl _ _).alloc _))

end Go.Proofs.YtmhigipljplgdaaDoor
