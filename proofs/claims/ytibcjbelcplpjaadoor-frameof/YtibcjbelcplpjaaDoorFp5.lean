/-
  Contract of layer 13 (frame): a frame's numbers. No statement of the seed is proved here.
-/
import Derived.Test.YtibcjbelcplpjaaDoorPd
import Derived.Test.YtibcjbelcplpjaaDoorPe
import Derived.Test.YtibcjbelcplpjaaDoorFpM
import Derived.StillTailTactics
namespace Go.Proofs.YtibcjbelcplpjaaDoor
open Go.RowKit
set_option linter.unusedVariables false

/-- Where a frame's numbers lie, and their sizes. -/
@[irreducible] def numsL (g : Nat) : List Value := [.pointer (some ⟨g, 16, none⟩), .int .i64 1, .pointer (some ⟨g, 17, none⟩), .int .i64 1, .pointer (some ⟨g, 18, none⟩), .int .i64 1, .pointer (some ⟨g, 19, none⟩), .int .i64 2]
theorem numsL_is (g : Nat) : numsL g = [.pointer (some ⟨g, 16, none⟩), .int .i64 1, .pointer (some ⟨g, 17, none⟩), .int .i64 1, .pointer (some ⟨g, 18, none⟩), .int .i64 1, .pointer (some ⟨g, 19, none⟩), .int .i64 2] := by unfold numsL; rfl
theorem zeroNums : (Tryd.prog.info? 73).bind (·.zero) = some (.agg (#[Value.pointer none, .int .i64 0, .pointer none, .int .i64 0, .pointer none, .int .i64 0, .pointer none, .int .i64 0] : Array Value)) := by kernel_rfl
set_option maxRecDepth 100000 in
set_option maxHeartbeats 2000000 in
theorem fNums_any (g : Nat) (w : World) : Calls Tryd.prog 37 #[.pointer (some ⟨g, 0, none⟩)] w fun e w' => e = .returned (.agg (numsL g).toArray) ∧ Kept [] w w' := by
  rw [numsL_is]
  go_enter Tryd.func37, Tryd.ntmps37
  go_wp2_with (with_reducible change wpList _ _ _ (⟨_, Op.alloc _, _, _, _, _⟩ :: _) _ _; refine wpList_alloc_blk rfl 73 rfl _ zeroNums ?_)
  intro w1 hR1 hk1 hs1
  go_wp2
  go_still_tail 17, (by kernel_rfl)
  change wpList _ _ _ _ _ w1.drew
  refine wpList_store_blk rfl 73 (.tmp 2) (.tmp 19) rfl w.heap.size [.pointer (some ⟨g, 16, none⟩), .int .i64 1, .pointer (some ⟨g, 17, none⟩), .int .i64 1, .pointer (some ⟨g, 18, none⟩), .int .i64 1, .pointer (some ⟨g, 19, none⟩), .int .i64 2] rfl rfl 73 _ hR1.drew (by kernel_rfl) rfl (by simp [Value.oneCell']) ?_
  intro w2 hR2 hk2 hs2
  go_wp2
  refine bodyPost_ret (results_blk rfl _ w.heap.size 73 _ _ rfl hR2 Tryd.underlying73 rfl (by kernel_rfl)) rfl ?_
  exact ⟨rfl, hk1.drew.trans hk2 (fun i hi => .inr (by simp at hi; omega))⟩
theorem nums_ix (g j : Nat) (hj : j < 4) (W : World) : (Instr.index 73 (.agg (numsL g).toArray) (.int .i64 (j : Int))).run Tryd.prog W = .ok (.agg #[.pointer (some ⟨g, 16 + j, none⟩), .int .i64 (numS j : Nat)]) W := by
  rw [numsL_is]
  rcases (by omega : j = 0 ∨ j = 1 ∨ j = 2 ∨ j = 3) with rfl | rfl | rfl | rfl <;> unfold numS <;> kernel_rfl
theorem numZ_cell {f : Fr} {A : Option Addr} {n c : Nat} {w : World} {g : Nat} (h : FrB w g f A n c) {j : Nat} (hj : j < 4) : w.cell? ⟨g, 16 + j, none⟩ = some (.int .i64 (numZ f j)) := by
  unfold numZ
  rcases (by omega : j = 0 ∨ j = 1 ∨ j = 2 ∨ j = 3) with rfl | rfl | rfl | rfl
  · exact h.idx
  · exact h.cnt
  · exact h.kk
  · exact h.cls
theorem zeroNum : (Tryd.prog.info? 72).bind (·.zero) = some (.agg (#[Value.pointer none, .int .i64 0] : Array Value)) := by kernel_rfl
end Go.Proofs.YtibcjbelcplpjaaDoor
