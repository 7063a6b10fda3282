/-
  Contracts of layer 13 (frame): what some work told to be wrong, by panic, is caught: the whole. No statement of the seed is proved here.
-/
import Derived.Test.YtibcjbelcplpjaaDoorFp3
namespace Go.Proofs.YtibcjbelcplpjaaDoor
open Go.RowKit
set_option linter.unusedVariables false

/-- One result, in a variable of one cell. -/
theorem results_c1 {P : Program} {w : World} {fn : Func} {u : Tmp} {ty : TypeId} (h : fn.results = #[.cell u ty]) (tmps : Array Value) (q : Nat) (v : Value)
    (hv : tmps.getD u undef = .pointer (some ⟨q, 0, none⟩)) (hagg : (isAgg ty).run P w = .ok false w) (hc : w.cell? ⟨q, 0, none⟩ = some v) :
    (results fn tmps).run P w = .ok v w := by
  have hv' : tmps[u]?.getD undef = .pointer (some ⟨q, 0, none⟩) := by simpa using hv
  simp [results, h, hv', asAddr, loadVar, hagg, hc]
set_option maxRecDepth 100000 in
set_option maxHeartbeats 2000000 in
theorem ct_any (fn : Nat) (cap : Array Value) (w : World) (S : List Nat) (X : Nat → World → Prop) (hE : ∀ w, (callFunc fn cap).run Tryd.prog w = .ok (.enter fn cap) w) (hS : ∀ i, i ∈ S → i < w.heap.size)
    (hX : ∀ er w2 w3, X er w2 → Kept [w.heap.size] w2 w3 → X er w3)
    (H : ∀ w1, Kept [] w w1 → w.heap.size < w1.heap.size → Calls Tryd.prog fn cap w1 fun e w2 => ∃ er : Nat, ((er = 0 ∧ e = .returned (.tuple #[])) ∨ (er ≠ 0 ∧ Throw er e)) ∧ Kept S w1 w2 ∧ X er w2) :
    Calls Tryd.prog 20 #[.func (.func fn) #[] cap] w fun e w3 => ∃ er : Nat, e = .returned (.int .i64 (er : Int)) ∧ Kept S w w3 ∧ X er w3 := by
  have hmf : ∀ (fn : Fn) (first cap : Array Value) (w : World), (Instr.makeFunc fn first cap).run Tryd.prog w = .ok (.func fn first cap) w := fun _ _ _ _ => rfl
  obtain ⟨w1, hw1⟩ : ∃ w1, w1 = w.alloc (.cells #[.int .i64 0] 31) := ⟨_, rfl⟩
  have hk1 : Kept [] w w1 := by rw [hw1]; exact (Kept.refl [] w).alloc _
  have hB1 : Blk w1 w.heap.size 31 [.int .i64 0] := by rw [hw1]; exact Blk.new w 31 [.int .i64 0]
  obtain ⟨q, hq⟩ : ∃ q, q = w.heap.size := ⟨_, rfl⟩
  rw [← hq] at hB1 hX
  have Q0 := Lib.hid hq
  have W1 := Lib.hid hw1
  have HH := Lib.hid (H w1 hk1 (by rw [← hq]; exact hB1.lt))
  have HK1 := Lib.hid hk1
  have HB1 := Lib.hid hB1
  have HX := Lib.hid hX
  have HS : Hid (q ∉ S) := Lib.hid (fun hm => by have := hS q hm; omega)
  clear hq hw1 hk1 hB1 hX H hS
  go_enter_defers Tryd.func20, Tryd.ntmps20
  go_wp2_with fail
  rw [← Q0.out, ← W1.out]
  refine HH.out.mono ?_
  rintro e w2 ⟨er, hc, hk2, hx⟩
  have hB2 := HB1.out.kept hk2 HS.out
  have HB2 := Lib.hid hB2
  have c0 : w2.cell? ⟨q, 0, none⟩ = some (.int .i64 0) := hB2.cell 0
  have f0 : w2.frozen? ⟨q, 0, none⟩ = false := hB2.frz 0
  have HKw : Hid (Kept S w w2) := Lib.hid ((HK1.out.mono (by simp)).trans hk2 (fun i hi => .inl hi))
  have hset : ∀ v, Kept [q] w2 (w2.setCell ⟨q, 0, none⟩ v) := fun v => (Kept.refl [q] w2).setCell (.inl (by simp)) _
  have HSet := Lib.hid hset
  have HXX := Lib.hid hx
  clear hB2 hk2 hset hx
  rcases hc with ⟨rfl, rfl⟩ | ⟨her, h2⟩
  · go_wp2
    refine leaves_cons (f := 34) (args := #[.pointer (some ⟨q, 0, none⟩)]) (by simp) (by simp [go_sem]) ?_
    refine (ct_idle q _).mono ?_
    rintro e u' w3 ⟨rfl, rfl, rfl⟩
    change Leaves _ _ _ _ [] .returning _
    refine ⟨.int .i64 0, results_c1 rfl _ q (.int .i64 0) rfl (by kernel_rfl) ((HB2.out.set 0 (.int .i64 0)).cell 0), 0, rfl, ?_, HX.out _ _ _ HXX.out (HSet.out _)⟩
    exact HKw.out.trans (HSet.out _) (fun i hi => .inr (by have := List.mem_singleton.1 hi; have := Q0.out; omega))
  · unfold Throw at h2
    subst h2
    refine leaves_cons (f := 34) (args := #[.pointer (some ⟨q, 0, none⟩)]) (by simp) (by simp [go_sem]) ?_
    refine (ct_thrown q er 0 [] _ c0 f0).mono ?_
    rintro e u' w3 ⟨rfl, rfl, rfl⟩
    change Leaves _ _ _ _ [] .returning _
    refine ⟨.int .i64 er, results_c1 rfl _ q (.int .i64 er) rfl (by kernel_rfl) ((HB2.out.set 0 (.int .i64 er)).cell 0), er, rfl, ?_, HX.out _ _ _ HXX.out (HSet.out _)⟩
    exact HKw.out.trans (HSet.out _) (fun i hi => .inr (by have := List.mem_singleton.1 hi; have := Q0.out; omega))
end Go.Proofs.YtibcjbelcplpjaaDoor
