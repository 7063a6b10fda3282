/-
  Contracts of the document's own small functions of layer 2. No statement of the seed is proved here.
-/
import Derived.Test.YtmhigipljplgdaaDoorPc
namespace Go.Proofs.YtmhigipljplgdaaDoor
open Go.RowKit
set_option linter.unusedVariables false

def thrN (x : W32) (L : List Nat) : Nat → W32
  | 0 => 0
  | k + 1 => thrN x L k ^^^ rotr x (L.getD k 0)
theorem thrN_three (x : W32) (a b c : Nat) : thrN x [a, b, c] 3 = three x a b c := rfl

set_option maxRecDepth 100000 in
set_option maxHeartbeats 1000000 in
theorem rThree_any (x : W32) (a b c : Nat) (w : World) (ha : 1 ≤ a ∧ a < 32) (hb : 1 ≤ b ∧ b < 32) (hc : 1 ≤ c ∧ c < 32) :
    Calls Tryd.prog 31 #[.int .u32 (wv x), .agg #[.int .i64 a, .int .i64 b, .int .i64 c]] w fun e w' => e = .returned (.int .u32 (wv (three x a b c))) ∧ Kept [] w w' := by
  have b0 := wv_nonneg x
  have b1 := wv_lt x
  have hB := Blk.new w 73 [.int .i64 a, .int .i64 b, .int .i64 c]
  have hK1 : Kept [] w (w.alloc (.cells [.int .i64 (a : Int), .int .i64 b, .int .i64 c].toArray 73)) := (Kept.refl [] w).alloc _
  go_enter Tryd.func31, Tryd.ntmps31
  go_wp2_with (with_reducible change wpList _ _ _ (⟨_, Op.box _ _, _, _, _, _⟩ :: _) _ _; refine Great.wpList_boxTo rfl 73 _ rfl _ rfl w.heap.size rfl [.int .i64 a, .int .i64 b, .int .i64 c].toArray rfl ?_)
  generalize w.alloc (.cells [.int .i64 (a : Int), .int .i64 b, .int .i64 c].toArray 73) = w1 at *
  go_loopw [5, 6] (fun v i wr => ∃ k m : Nat, k ≤ 3 ∧ i = .int .i64 k ∧ v = .int .u32 (wv (thrN x [a, b, c] k)) ∧ wr = w1.drewN m) (fun _ i _ => 3 - (intOf i).toNat)
  case atStart => exact ⟨0, 0, by omega, rfl, by show _ = Value.int .u32 (wv 0); rw [wv_eq]; rfl, rfl⟩
  case round =>
    obtain ⟨k, m, hk, rfl, rfl, rfl⟩ := hrel
    by_cases hlt : k < 3
    · obtain ⟨d, hd1, hd2, hcell, Hd⟩ : ∃ d : Nat, 1 ≤ d ∧ d < 32 ∧ w1.cell? ⟨w.heap.size, k, none⟩ = some (.int .i64 d) ∧ Hid (thrN x [a, b, c] (k + 1) = thrN x [a, b, c] k ^^^ rotr x d) := by
        have : k = 0 ∨ k = 1 ∨ k = 2 := by omega
        rcases this with rfl | rfl | rfl
        · exact ⟨a, ha.1, ha.2, hB.cell 0, rfl⟩
        · exact ⟨b, hb.1, hb.2, hB.cell 1, rfl⟩
        · exact ⟨c, hc.1, hc.2, hB.cell 2, rfl⟩
      generalize thrN x [a, b, c] k = s at *
      have hkz : (k : Int) < 3 := by omega
      have q1 : IntKind.i64.wrap (32 - (d : Int)) = ((32 - d : Nat) : Int) := by rw [IntWalk.i64_in _ (by omega)]; omega
      clear hB hK1 ha hb hc
      go_wp2
      go_quiet (fail)
      go_wp2
      go_roundw
      case rel => exact ⟨k + 1, m + nq, by omega, by go_num, by rw [wv_shr, wv_shl, bits_orW, bits_xorW, Hd.out]; rfl, rfl⟩
      case measure => simp [intOf]; omega
    · obtain rfl : k = 3 := by omega
      go_wp2
      go_ret
      exact ⟨rfl, hK1.drewN m⟩

theorem sizeI3 : (Tryd.prog.info? 73).map (·.size) = some 3 := by kernel_rfl
set_option maxRecDepth 100000 in
set_option maxHeartbeats 1000000 in
theorem rTwo_any (x : W32) (a b c : Nat) (w : World) (ha : 1 ≤ a ∧ a < 32) (hb : 1 ≤ b ∧ b < 32) (hc : 1 ≤ c ∧ c < 32) :
    Calls Tryd.prog 35 #[.int .u32 (wv x), .agg #[.int .i64 a, .int .i64 b, .int .i64 c]] w fun e w' => e = .returned (.int .u32 (wv (three x a b c ^^^ (x <<< (32 - c))))) ∧ Kept [] w w' := by
  have b0 := wv_nonneg x
  have b1 := wv_lt x
  have hB := Blk.new w 73 [.int .i64 a, .int .i64 b, .int .i64 c]
  have hK1 : Kept [] w (w.alloc (.cells [.int .i64 (a : Int), .int .i64 b, .int .i64 c].toArray 73)) := (Kept.refl [] w).alloc _
  obtain ⟨c0, c1⟩ := hc
  go_enter Tryd.func35, Tryd.ntmps35
  go_wp2_with (with_reducible change wpList _ _ _ (⟨_, Op.box _ _, _, _, _, _⟩ :: _) _ _; refine Great.wpList_boxTo rfl 73 _ rfl _ rfl w.heap.size rfl [.int .i64 a, .int .i64 b, .int .i64 c].toArray rfl ?_)
  generalize w.alloc (.cells [.int .i64 (a : Int), .int .i64 b, .int .i64 c].toArray 73) = w1 at *
  have d2 : w1.cell? ⟨w.heap.size, 2, none⟩ = some (.int .i64 c) := hB.cell 2
  go_wp2_with (with_reducible change wpList _ _ _ (⟨_, Op.load 73 _, _, _, _, _⟩ :: _) _ _; refine wpList_load_blk rfl 73 (.tmp 3) rfl w.heap.size rfl 73 [.int .i64 a, .int .i64 b, .int .i64 c] _ hB Tryd.underlying73 rfl sizeI3 ?_)
  refine (rThree_any x a b c _ ha hb ⟨c0, c1⟩).mono ?_
  rintro e w2 ⟨rfl, hk2⟩
  go_wp2
  go_ret
  exact ⟨ret_int (by rw [wv_shl, bits_xorW]), hK1.andThen hk2⟩
end Go.Proofs.YtmhigipljplgdaaDoor
