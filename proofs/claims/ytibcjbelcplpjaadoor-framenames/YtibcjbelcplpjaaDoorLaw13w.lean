/-
  Contract of layer 13, the law's own: the example holds. No statement of the seed is proved here.
-/
import Derived.Test.YtibcjbelcplpjaaDoorFrI
namespace Go.Proofs.YtibcjbelcplpjaaDoor
open Go.RowKit
set_option linter.unusedVariables false

theorem name0 : nameL (List.replicate 16 0) 12 = [102, 48, 48, 48, 48, 48, 48, 48, 48, 48, 48, 48, 48, 48, 48, 48, 48, 48, 48, 48, 48, 48, 48, 48, 48, 48, 48, 48, 48, 48, 48, 48, 48, 46, 49, 50] := by
  have e : decZ 12 = [49, 50] := by
    rw [decZ_pos (by omega), show (12 : Int).natAbs = 12 from rfl, decN_hi (by omega), decN_lo (by omega)]
    rfl
  unfold nameL
  rw [e]
  rfl
set_option maxRecDepth 100000 in
set_option maxHeartbeats 4000000 in
theorem wakes13_any {G : World → Prop} (HN : NameHas G) (w : World) (hgl : G w) : Calls Tryd.prog 7 #[] w fun e w' => e = .returned (.bool true) ∧ Kept [] w w' := by
  have HC := Lib.hid (HN.name (List.replicate 16 0) 12)
  have Hgl := Lib.hid hgl
  clear HN hgl
  go_enter Tryd.func7, Tryd.ntmps7
  go_wp2_with fail
  refine (HC.out _ (by simp) (by omega) (by omega) Hgl.out).mono ?_
  rw [name0]
  rintro e w1 ⟨s, rfl, hs, hk1⟩
  have HK1 := Lib.hid hk1
  have he := str_of s _ hs
  subst he
  clear hs hk1
  go_wp2
  go_ret
  exact ⟨ret_bool (by decide +kernel), HK1.out⟩
end Go.Proofs.YtibcjbelcplpjaaDoor
