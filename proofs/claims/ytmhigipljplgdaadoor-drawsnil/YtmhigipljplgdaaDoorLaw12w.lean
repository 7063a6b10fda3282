/-
  Contract of layer 12, the law's own: the example holds. No statement of the seed is proved here.
-/
import Derived.Test.YtmhigipljplgdaaDoorDrI
import Derived.Test.YtmhigipljplgdaaDoorPc
namespace Go.Proofs.YtmhigipljplgdaaDoor
open Go.RowKit
set_option linter.unusedVariables false

/-- A key of one byte and noughts. -/
@[irreducible] def key1 (b : UInt8) : List UInt8 := b :: List.replicate 31 0
theorem key1_length (b : UInt8) : (key1 b).length = 32 := by unfold key1; simp
set_option maxRecDepth 100000 in
set_option maxHeartbeats 4000000 in
theorem wakes12_any (Dr : World → Nat → List Nat → Ks → Prop) (HD : DrHas Dr) (w : World) : Calls Tryd.prog 5 #[] w fun e w' => e = .returned (.bool true) ∧ Kept [] w w' := by
  have HA : All32 [key1 1, key1 2] := (All32.one (key1_length 1)).append (All32.one (key1_length 2))
  go_enter Tryd.func5, Tryd.ntmps5
  go_wp2_with fail
  refine (HD.new _ 2 2 [key1 1, key1 2] _ (RdK.lit w 32 _ 2 [key1 1, key1 2] (by unfold key1; rfl) rfl HA (by simp [maxLen])) (by omega)).mono ?_
  rintro e w3 ⟨p, F, rfl, hd3, hk3, hF3⟩
  obtain ⟨k1, hk1⟩ : ∃ k, key1 1 = k := ⟨_, rfl⟩
  obtain ⟨k2, hk2⟩ : ∃ k, key1 2 = k := ⟨_, rfl⟩
  rw [hk1, hk2] at hd3
  have HD3 := Lib.hid hd3
  have HK3 := Lib.hid (((Kept.refl [] w).alloc _).andThen hk3)
  have HF3 : Hid (∀ i, i ∈ F → w.heap.size ≤ i) := Lib.hid (fun i hi => by have := hF3 i hi; rw [World.alloc] at this; simp at this; omega)
  clear hd3 hk3 hF3 hk1 hk2 HA
  go_wp2_with fail
  have hE : somE 3 2 = 8 := somE_few (by omega)
  have hS : somO 3 [k1, k2] = [] ∧ somL 3 [k1, k2] = [k1, k2] := som_no (by show somE 3 2 ≠ 0; rw [hE]; decide)
  have HS := Lib.hid (And.intro hE hS)
  clear hE hS
  refine (HD.some_ _ p F [k1, k2] 3 HD3.out (by omega) (by omega) (by simp)).mono ?_
  rintro e w4 ⟨A, n, c, rfl, hr4, F', hd4, hk4, hF4⟩
  rw [HS.out.2.2] at hd4
  rw [show somE 3 [k1, k2].length = 8 from HS.out.1]
  have HD4 := Lib.hid hd4
  have HK4 : Hid (Kept [] w w4) := Lib.hid (HK3.out.trans hk4 (fun i hi => .inr (HF3.out i hi)))
  clear hd4 hk4 hF4 HD3 HK3 hr4
  go_wp2_with fail
  refine (HD.left_ _ p F' [k1, k2] HD4.out (by simp)).mono ?_
  rintro e w5 ⟨rfl, hk5⟩
  have HK5 := Lib.hid (HK4.out.andThen hk5)
  clear hk5 HK4
  go_wp2
  go_ret
  exact ⟨rfl, HK5.out⟩
end Go.Proofs.YtmhigipljplgdaaDoor
