/-
  Contracts of layer 11, the document's own, in one piece each. No statement of the seed is proved here.
-/
import Derived.Test.YtmjeojbdieaakaaDoorAo4
import Derived.Test.YtmjeojbdieaakaaDoorAo7
namespace Go.Proofs.YtmjeojbdieaakaaDoor
open Go.RowKit
set_option linter.unusedVariables false

theorem rSiz_any (c k : Int) (w : World) : Calls Tryd.prog 30 #[.int .i64 c, .int .i64 k] w fun e w' => e = .returned (sizV c k) ∧ w = w' := by
  cases h : isCls c with
  | false => exact rSiz_no c k h w
  | true =>
    by_cases hk : k < 1 ∨ 255 < k
    · exact rSiz_few c k h hk w
    · obtain ⟨C, rfl⟩ : ∃ C : Nat, c = (C : Int) := ⟨c.toNat, by have := isCls_cases h; omega⟩
      obtain ⟨q, rfl⟩ : ∃ q : Nat, k = (q : Int) := ⟨k.toNat, by omega⟩
      exact rSiz_yes C q h (by omega) (by omega) w
/-- A key and an error. -/
def KeyERet (l : List UInt8) (x : Int) (w : World) (e : Ending) (w' : World) : Prop := e = .returned (.tuple #[.agg (bvs l).toArray, .int .i64 x]) ∧ Kept [] w w'
theorem rAKey_any (cl : Int) (A : Option Addr) (n c : Nat) (ls : List (List UInt8)) (w : World) (hr : RdL w A n c ls) :
    Calls Tryd.prog 17 #[.int .i64 cl, .slice A n c] w (KeyERet (aKeyV cl ls) (joinE cl ls) w) := by
  by_cases h : joinE cl ls = 0
  · obtain ⟨C, rfl, h1, h2, h3, h4, h5, h6, h7⟩ := join_facts h
    have hv : aKeyV (C : Int) ls = keyL C ls.flatten := by unfold aKeyV; rw [if_pos h, Int.toNat_natCast]
    rw [hv, h]
    exact rAKey_yes C A n c ls w hr h h2 h6 h7
  · exact rAKey_no cl A n c ls w hr h
theorem rAUnp_any (cl : Int) (A : Option Addr) (n c : Nat) (ls : List (List UInt8)) (w : World) (hr : RdL w A n c ls) :
    Calls Tryd.prog 18 #[.agg (bvs sbox).toArray, .int .i64 cl, .slice A n c] w (JoinRet (unpV cl ls) (unpE cl ls) w) := by
  have hl := hr.len
  by_cases h : joinE cl ls = 0
  · obtain ⟨C, rfl, h1, h2, h3, h4, h5, h6, h7⟩ := join_facts h
    exact rAUnp_yes C A n c ls w hr h h1 h2 (by omega) (by omega) h6 h7
  · exact rAUnp_no cl A n c ls w hr h
end Go.Proofs.YtmjeojbdieaakaaDoor
