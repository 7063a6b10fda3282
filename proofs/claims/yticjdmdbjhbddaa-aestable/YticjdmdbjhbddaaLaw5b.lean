/-
  The walk of a law of layer 5: each byte of the table is what the document says; the table has each byte once. No statement of the seed is proved here.
-/
import Derived.Test.YticjdmdbjhbddaaLaw5a
import Derived.Test.YticjdmdbjhbddaaLift
namespace Go.Proofs.Yticjdmdbjhbddaa
open Go.RowKit
set_option linter.unusedVariables false

theorem byte_of_int {a : Int} (h : (Lit.int .u8 a).wf = true) : ∃ x : UInt8, a = (x.toNat : Int) := ⟨_, zs_byte a h⟩

set_option maxRecDepth 100000 in
set_option maxHeartbeats 2000000 in
theorem table_walk (za zb' : Int) (w : World) (ha : (Lit.int .u8 za).wf = true) (hb : (Lit.int .u8 zb').wf = true) :
    Calls Try.prog 4 #[.int .u8 za, .int .u8 zb'] w fun e w' => e = .returned (.bool true) ∧ Kept [] w w' := by
  obtain ⟨a, rfl⟩ := byte_of_int ha
  obtain ⟨b, rfl⟩ := byte_of_int hb
  have Hsl := Lib.hid sbox_length
  have Hszs := Lib.hid (size_of_len (P := Try.prog) (ty := 26) size256 Hsl.out)
  have Hzs := Lib.hid (zb_len Hsl.out)
  have hab := a.toNat_lt
  have hbb := b.toNat_lt
  clear ha hb
  go_enter Try.func4, Try.ntmps4
  go_wp2_with fail
  refine (wakes5_any _).mono ?_
  rintro e w1 ⟨rfl, hk1⟩
  go_wp2_with fail
  refine (table_any _).mono ?_
  rintro e w2 ⟨rfl, hk2⟩
  have hK2 := hk1.andThen hk2
  clear hk1 hk2
  go_wp2_with (with_reducible change wpList _ _ _ (⟨_, Op.alloc _, _, _, _, _⟩ :: _) _ _; refine wpList_alloc_blk rfl 26 rfl _ zero256 ?_)
  intro w3 hP3 hk3 hs3
  go_wp2_with (with_reducible change wpList _ _ _ (⟨_, Op.store _ _ _, _, _, _, _⟩ :: _) _ _; refine wpList_store_blk rfl 26 (.tmp 5) (.tmp 8) rfl w2.heap.size (bvs sbox) rfl rfl 26 (zb 256) hP3 Hszs.out Hzs.out (bvs_one _) ?_)
  intro w4 hP4 hk4 hs4
  obtain ⟨p, hp⟩ : ∃ p, p = w2.heap.size := ⟨_, rfl⟩
  have hK4 : Kept [] w w4 := (hK2.andThen hk3).trans hk4 (by have := hK2.size; simp; omega)
  rw [← hp] at hP4 ⊢
  clear hP3 hk3 hk4 hs3 hs4 hp hK2
  have ca : w4.cell? ⟨p, a.toNat, none⟩ = some (.int .u8 ((sb a).toNat : Int)) := by rw [hP4.cell, bvs, List.getElem?_map, sb_get]; rfl
  have cb : w4.cell? ⟨p, b.toNat, none⟩ = some (.int .u8 ((sb b).toNat : Int)) := by rw [hP4.cell, bvs, List.getElem?_map, sb_get]; rfl
  have za : (a.toNat : Int) < 256 := by omega
  have zb : (b.toNat : Int) < 256 := by omega
  by_cases hE : a = b
  · subst hE
    clear hP4
    go_wp2
    go_quiet (first
      | (go_at_call 12; refine Calls.quiet_of ((sub5_any a _ _ (by with_reducible rfl)).mono fun e w' h => ⟨h.1, 0, by rw [h.2]; rfl⟩)))
    go_wp2
    go_ret
    exact ⟨rfl, hK4.drewN _⟩
  · have h1 : (a.toNat : Int) ≠ (b.toNat : Int) := fun h => hE (UInt8.toNat_inj.1 (by omega))
    have h2 : ((sb a).toNat : Int) ≠ ((sb b).toNat : Int) := fun h => hE (sb_inj (UInt8.toNat_inj.1 (by omega)))
    clear hP4 hE
    go_wp2
    go_quiet (first
      | (go_at_call 12; refine Calls.quiet_of ((sub5_any a _ _ (by with_reducible rfl)).mono fun e w' h => ⟨h.1, 0, by rw [h.2]; rfl⟩))
      | (go_at_call 12; refine Calls.quiet_of ((sub5_any b _ _ (by with_reducible rfl)).mono fun e w' h => ⟨h.1, 0, by rw [h.2]; rfl⟩)))
    go_wp2
    go_ret
    exact ⟨ret_bool (by rw [beq_eq_false_iff_ne.2 h2, beq_eq_false_iff_ne.2 h1]; rfl), hK4.drewN _⟩
end Go.Proofs.Yticjdmdbjhbddaa
