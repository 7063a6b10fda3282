/-
  Walk of the fixed fact that layer 8's laws ask first. No statement of the seed is proved here.
-/
import Derived.Test.YtmfbgogfefgglaaM87
import Derived.Test.YtmfbgogfefgglaaR7s
namespace Go.Proofs.Ytmfbgogfefgglaa
open Go.RowKit
set_option linter.unusedVariables false

theorem two_inv : gmul 0x1d 0x8e 2 = 1 := by decide +kernel
theorem ginv_two : ginv 0x1d 2 = 0x8e := by decide +kernel
theorem rank_two {r : Nat} (h : IsRank 1 1 (fun _ _ => (⟨2⟩ : GB)) r) : r = 1 := by
  have hi : ∀ i, i < 1 → ∀ j, j < 1 → mm 1 (fun _ _ => (⟨0x8e⟩ : GB)) (fun _ _ => (⟨2⟩ : GB)) i j = un i j := fun i hi j hj => by
    obtain rfl : i = 0 := by omega
    obtain rfl : j = 0 := by omega
    show (0 : GB) + ⟨0x8e⟩ * ⟨2⟩ = un 0 0
    rw [f_zero_add, un, if_pos rfl]
    exact congrArg GB.mk two_inv
  exact h.unique (indep_of_inv hi).rank
theorem inv_two {x : Nat → Nat → GB} (h : ∀ i, i < 1 → ∀ j, j < 1 → mm 1 x (fun _ _ => (⟨2⟩ : GB)) i j = un i j) : (x 0 0).v = 0x8e := by
  have h1 := h 0 (by omega) 0 (by omega)
  have h2 : (0 : GB) + x 0 0 * ⟨2⟩ = un 0 0 := h1
  rw [f_zero_add, un, if_pos rfl, Fld.mul_comm] at h2
  have h3 : gmul 0x1d 2 (x 0 0).v = 1 := congrArg GB.v h2
  rw [inv_unique 2 _ h3, ginv_two]
theorem long8_any (A : Option Addr) (n c : Nat) (ls : List (List UInt8)) (w : World) (hr : RdL w A n c ls) : Calls Try.prog 11 #[.slice A n c] w (LongRetG 8 8 n ls w) := by
  have HR := Lib.hid hr
  clear hr
  go_enter Try.func11, Try.ntmps11
  go_wp2_with fail
  refine (longG_any 8 8 _ _ _ _ _ HR.out (by omega) (by omega)).mono ?_
  rintro e w1 ⟨q, rfl, rfl, H⟩
  go_wp2
  go_ret
  exact ⟨q, rfl, rfl, H⟩
set_option maxHeartbeats 1000000 in
theorem wakes8_any (w : World) : Calls Try.prog 10 #[] w fun e w' => e = .returned (.bool true) ∧ Kept [] w w' := by
  go_enter Try.func10, Try.ntmps10
  go_wp2_with fail
  refine (make7_any _).mono ?_
  rintro e w2 ⟨p, rfl, hT, hp, hk2⟩
  have HT0 := Lib.hid hT
  have HK0 := Lib.hid hk2
  clear hT hp hk2
  go_wp2_with fail
  obtain ⟨W, hW⟩ : ∃ W, W = (w2.alloc (.cells #[.int .u8 2] 5)).alloc (.cells #[.slice (some ⟨w2.heap.size, 0, none⟩) 1 1] 37) := ⟨_, rfl⟩
  have hk3 : Kept [] w2 W := by rw [hW]; exact ((Kept.refl [] w2).alloc _).alloc _
  have hr2 : ∃ B, B = (w2.alloc (.cells #[.int .u8 2] 5)).heap.size ∧ RdL W (some ⟨B, 0, none⟩) 1 1 (ofm 1 1 fun _ _ => ⟨2⟩) := by
    refine ⟨_, rfl, ?_⟩
    rw [hW, show ofm 1 1 (fun _ _ => (⟨2⟩ : GB)) = [[2]] by simp [ofm, rm]]
    exact RdL.one 37 (RdB.one w2 5 2 2 rfl)
  obtain ⟨B, hB, hr2⟩ := hr2
  rw [← hW]
  first | rw [← hB] | (rw [show w2.heap.size + 1 = B by rw [hB]; simp])
  clear hW hB
  refine (inverse8_any p _ 1 1 (fun _ _ => ⟨2⟩) _ (HT0.out.kept0 hk3) hr2 (by omega) (by omega)).mono ?_
  rintro e w4 ⟨hk4, (⟨rfl, Hb⟩ | ⟨R, G, off, x, rfl, HM, hwR, hwG, HI⟩)⟩
  · obtain ⟨r, hr, hR⟩ := Hb.out
    have := rank_two hR
    omega
  · have HK4 := Lib.hid ((HK0.out.andThen hk3).andThen hk4)
    have c1 := HM.out.row (i := 0) (by omega)
    have c2 := HM.out.byte (i := 0) (j := 0) (by omega) (by omega)
    rw [inv_two HI.out, Nat.add_zero] at c2
    have c3 : w4.cell? ⟨G, off 0, none⟩ = some (.int .u8 142) := c2
    clear hr2 hk3 hk4 HI HM c2
    go_wp2
    go_ret
    exact ⟨rfl, HK4.out⟩
end Go.Proofs.Ytmfbgogfefgglaa
