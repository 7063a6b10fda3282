/-
  Contracts of layer 13 (frame): what some work told to be wrong, by panic, is caught. No statement of the seed is proved here.
-/
import Derived.Test.YtibcjbelcplpjaaDoorFp1
import Derived.Test.YtibcjbelcplpjaaDoorPd
import Derived.Defers
import Derived.Recover
namespace Go.Proofs.YtibcjbelcplpjaaDoor
open Go.RowKit
set_option linter.unusedVariables false

theorem ct_idle (q : Nat) (w : World) :
    CallsD Tryd.prog 34 #[.pointer (some ⟨q, 0, none⟩)] .returning w fun e u' w' => e = .returned (.tuple #[]) ∧ u' = .returning ∧ w' = w := by
  refine callsD_of_wpS Tryd.func34 rfl fun c₀ cs hu => ?_
  apply wpS_seq
  apply wpS_region
  simp [wpOpsS, go_sem, recoverD, hu, Tryd.ntmps34, Exit.thenS]
  apply wpS_seq
  apply wpS_region
  simp [wpOpsS, go_sem, Exit.thenS]
  refine wpS_cond (t := false) (by simp [Act.eval, Array.replicate]) ?_
  simp only [Bool.false_eq_true, if_false]
  refine wpS_of_wp (wp_skip ?_)
  cases c₀
  simp_all [bodyPostS, results, Tryd.results34]
set_option maxRecDepth 100000 in
set_option maxHeartbeats 2000000 in
theorem ct_thrown (q : Nat) (e x0 : Int) (older : List PanicEntry) (w : World) (hq : w.cell? ⟨q, 0, none⟩ = some (.int .i64 x0)) (hf : w.frozen? ⟨q, 0, none⟩ = false) :
    CallsD Tryd.prog 34 #[.pointer (some ⟨q, 0, none⟩)] (.panicking ({ v := thrown e, recovered := false } :: older)) w fun x u' w' =>
      x = .returned (.tuple #[]) ∧ u' = .panicking ({ v := thrown e, recovered := true } :: older) ∧ w' = w.setCell ⟨q, 0, none⟩ (.int .i64 e) := by
  refine callsD_of_wpS Tryd.func34 rfl fun c₀ cs hu => ?_
  unfold thrown at hu ⊢
  apply wpS_seq
  apply wpS_region
  simp [wpOpsS, go_sem, recoverD, hu, Tryd.ntmps34, Exit.thenS]
  apply wpS_seq
  apply wpS_region
  simp [wpOpsS, go_sem, Exit.thenS]
  refine wpS_cond (t := true) (by simp [Act.eval, Array.replicate]) ?_
  simp only [if_true]
  refine wpS_of_wp ?_
  change Code.wp _ _ _ (⟨#[.pointer (some ⟨q, 0, none⟩), .iface 63 (.int .i64 e), .iface 63 (.int .i64 e), .iface 63 (.int .i64 e), .bool true, undef, undef], []⟩ : Act) _
  have hta : ∀ w, (Instr.typeAssert (.iface 63 (.int .i64 e)) 20 63 false).run Tryd.prog w = .ok (.int .i64 e) w := fun w => by kernel_rfl
  go_wp2
  trace_state
  simp [bodyPostS, results, Tryd.results34]
end Go.Proofs.YtibcjbelcplpjaaDoor
