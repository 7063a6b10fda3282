/-
  Words of layer 8's document: rows of the call's own, with an error's number. No statement of the seed is proved here.
-/
import Derived.Test.YtmfbgogfefgglaaMtM
namespace Go.Proofs.Ytmfbgogfefgglaa
open Go.RowKit
set_option linter.unusedVariables false

theorem ofm_snoc (n k : Nat) (m : Nat → Nat → GB) : ofm (n + 1) k m = ofm n k m ++ [rm k (fun j => (m n j).v)] := rm_snoc _ _
/-- Rows of the call's own, and an error's number. -/
def LRet2 (ls : List (List UInt8)) (z : Int) (w : World) (e : Ending) (w' : World) : Prop := ∃ A n c, e = .returned (.tuple #[.slice A n c, .int .i64 z]) ∧ RdL w' A n c ls ∧ Kept [] w w'
/-- Rows of the call's own. -/
def LRet (ls : List (List UInt8)) (w : World) (e : Ending) (w' : World) : Prop := ∃ A n c, e = .returned (.slice A n c) ∧ RdL w' A n c ls ∧ Kept [] w w'
end Go.Proofs.Ytmfbgogfefgglaa
