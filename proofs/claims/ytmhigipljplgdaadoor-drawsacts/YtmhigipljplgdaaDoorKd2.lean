/-
  Contract of layer 12, the law's own: whether two lists of keys are alike. No statement of the seed is proved here.
-/
import Derived.Test.YtmhigipljplgdaaDoorKyM
import Derived.Test.YtmhigipljplgdaaDoorEq32
import Derived.Test.YtmhigipljplgdaaDoorPc
namespace Go.Proofs.YtmhigipljplgdaaDoor
open Go.RowKit
set_option linter.unusedVariables false

theorem pure_idxK {o : Oper} {ev : Operand → Value} (x y : Operand) (ho : o.op = .indexAddr 22 x y) (b off n c j : Nat) (hx : ev x = .slice (some ⟨b, off, none⟩) n c) (hy : ev y = .int .i64 (j : Int)) (hj : j < n) (w : World) :
    (execOp ev o).run Tryd.prog w = .ok (.value (.pointer (some ⟨b, off + j * 32, none⟩))) w := by
  obtain ⟨i, hi, _, hsz, _⟩ := infoK
  unfold execOp
  simp only [ho, hx, hy]
  simp [Instr.indexAt, run_underlying Tryd.underlying22, asIntOf, sizeOf, typeInfo, hi, hsz, addr_add, hj]

set_option maxRecDepth 100000 in
set_option maxHeartbeats 2000000 in
theorem same12_any (A A' : Option Addr) (n c n' c' : Nat) (ks : Ks) (w : World) (ha : RdK w A n c ks) (hb : RdK w A' n' c' ks) :
    Calls Tryd.prog 10 #[.slice A n c, .slice A' n' c'] w fun e w' => e = .returned (.bool true) ∧ ∃ m, w' = w.drewN m := by
  obtain rfl : n = n' := by rw [← ha.len, ← hb.len]
  have HA := Lib.hid ha
  have HB := Lib.hid hb
  have b1 := ha.cap
  have b2 := ha.most
  have b3 := hb.cap
  have b4 := hb.most
  unfold maxLen at b2 b4
  clear ha hb
  go_enter Tryd.func10, Tryd.ntmps10
  go_wp2
  go_loopw [13] (fun i wr => ∃ j m : Nat, j ≤ n ∧ i = .int .i64 (j : Int) ∧ wr = w.drewN m) (fun i _ => n - (intOf i).toNat)
  case atStart => exact ⟨0, 0, by omega, rfl, rfl⟩
  case round =>
    obtain ⟨j, m, hj, rfl, rfl⟩ := hrel
    by_cases hlt : j < n
    · obtain ⟨b, off, k, rfl, hk, hkl, hR, hbl⟩ := HA.out.key hlt
      obtain ⟨b', off', k', rfl, hk', _, hR', hbl'⟩ := HB.out.key hlt
      obtain rfl : k = k' := Option.some.inj (hk.symm.trans hk')
      have Hkl := Lib.hid hkl
      have Hsz := Lib.hid (size_of_len (P := Tryd.prog) (ty := 32) size32 hkl)
      have Hkk : Hid ((!(k == k)) = false) := Lib.hid (by simp)
      have SK : Hid (∀ W, Kept [] w W → W.rangeAt b (off + j * 32) (bvs k) ∧ W.rangeAt b' (off' + j * 32) (bvs k)) := Lib.hid (fun W h => ⟨fun i v hv => (h.cell (p := ⟨b, off + j * 32 + i, none⟩) hbl (by simp)).trans (hR i v hv), fun i v hv => (h.cell (p := ⟨b', off' + j * 32 + i, none⟩) hbl' (by simp)).trans (hR' i v hv)⟩)
      clear hk hk' hkl hR hR' hbl hbl'
      go_wp2
      have hHeld := SK.out _ ((Kept.refl [] w).drewN m).drew
      refine wp_region_begin (fun W => W.rangeAt b (off + j * 32) (bvs k) ∧ W.rangeAt b' (off' + j * 32) (bvs k)) (by kernel_rfl) ?_
      refine held_pureD 0 16 (Value.slice (some ⟨b, off, none⟩) n c) rfl rfl (by kernel_rfl) (by kernel_rfl) (by kernel_rfl) rfl (fun w _ => rfl) hHeld ?_
      simp only [Act.put, List.setIfInBounds_toArray, List.set_cons_succ, List.set_cons_zero]
      refine held_pureD 1 17 (.int .i64 (j : Int)) rfl rfl (by kernel_rfl) (by kernel_rfl) (by kernel_rfl) rfl (fun w _ => rfl) hHeld ?_
      simp only [Act.put, List.setIfInBounds_toArray, List.set_cons_succ, List.set_cons_zero]
      refine held_pureD 2 18 (Value.pointer (some ⟨b, off + j * 32, none⟩)) rfl rfl (by kernel_rfl) (by kernel_rfl) (by kernel_rfl) rfl (fun w _ => pure_idxK (.tmp 16) (.tmp 17) rfl b off n c j rfl rfl hlt w) hHeld ?_
      simp only [Act.put, List.setIfInBounds_toArray, List.set_cons_succ, List.set_cons_zero]
      refine held_loadD 3 19 rfl rfl (by kernel_rfl) (by kernel_rfl) (by kernel_rfl) rfl 32 (.tmp 18) rfl b (off + j * 32) rfl (bvs k) _ (fun w h => h.1) arr32b rfl Hsz.out hHeld ?_
      simp only [Act.put, List.setIfInBounds_toArray, List.set_cons_succ, List.set_cons_zero]
      refine held_pureD 4 20 (Value.slice (some ⟨b', off', none⟩) n c') rfl rfl (by kernel_rfl) (by kernel_rfl) (by kernel_rfl) rfl (fun w _ => rfl) hHeld ?_
      simp only [Act.put, List.setIfInBounds_toArray, List.set_cons_succ, List.set_cons_zero]
      refine held_pureD 5 21 (.int .i64 (j : Int)) rfl rfl (by kernel_rfl) (by kernel_rfl) (by kernel_rfl) rfl (fun w _ => rfl) hHeld ?_
      simp only [Act.put, List.setIfInBounds_toArray, List.set_cons_succ, List.set_cons_zero]
      refine held_pureD 6 22 (Value.pointer (some ⟨b', off' + j * 32, none⟩)) rfl rfl (by kernel_rfl) (by kernel_rfl) (by kernel_rfl) rfl (fun w _ => pure_idxK (.tmp 20) (.tmp 21) rfl b' off' n c' j rfl rfl hlt w) hHeld ?_
      simp only [Act.put, List.setIfInBounds_toArray, List.set_cons_succ, List.set_cons_zero]
      refine held_loadD 7 23 rfl rfl (by kernel_rfl) (by kernel_rfl) (by kernel_rfl) rfl 32 (.tmp 22) rfl b' (off' + j * 32) rfl (bvs k) _ (fun w h => h.2) arr32b rfl Hsz.out hHeld ?_
      simp only [Act.put, List.setIfInBounds_toArray, List.set_cons_succ, List.set_cons_zero]
      refine held_pureD 8 24 (.bool (!(k == k))) rfl rfl (by kernel_rfl) (by kernel_rfl) (by kernel_rfl) rfl (fun w _ => run_neq32 _ _ (.tmp 19) (.tmp 23) _ rfl k k Hkl.out Hkl.out rfl rfl w) hHeld ?_
      simp only [Act.put, List.setIfInBounds_toArray, List.set_cons_succ, List.set_cons_zero]
      rw [Hkk.out]
      refine held_done (by kernel_rfl) ?_
      clear hHeld
      go_wp2
      go_roundw
      case rel => exact ⟨j + 1, m + 1, by omega, by go_num, rfl⟩
      case measure => simp [intOf]; omega
    · go_wp2
      go_ret
      exact ⟨rfl, m, rfl⟩
end Go.Proofs.YtmhigipljplgdaaDoor
