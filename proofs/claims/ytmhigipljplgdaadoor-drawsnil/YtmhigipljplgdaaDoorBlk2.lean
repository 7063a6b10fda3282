/-
  A result that lies in a variable, beside a plain one. No statement of the seed is proved here.
-/
import Derived.Test.YtmhigipljplgdaaDoorChecked
import Derived.Test.YtmhigipljplgdaaDoorBlk
namespace Go.Proofs.YtmhigipljplgdaaDoor
open Go.RowKit
set_option linter.unusedVariables false

theorem results_blk2 {P : Program} {w : World} {fn : Func} {p u : Tmp} {ty : TypeId} (h : fn.results = #[.cell p ty, .tmp u]) (tmps : Array Value) (g : Nat) (t : TypeId) (cs : List Value) (d : TypeDesc) (v : Value)
    (hp : tmps.getD p undef = .pointer (some ⟨g, 0, none⟩)) (hv : tmps.getD u undef = v) (hg : Blk w g t cs)
    (hu : P.underlying ty = some d) (hd : d.isRow = true) (hi : (P.info? ty).map (·.size) = some cs.length) :
    (results fn tmps).run P w = .ok (.tuple #[.agg cs.toArray, v]) w := by
  have hp' : tmps[p]?.getD undef = .pointer (some ⟨g, 0, none⟩) := by simpa using hp
  have hv' : tmps[u]?.getD undef = v := by simpa using hv
  simp [results, h, hp', hv', asAddr, run_loadVar_row w g t ty cs.toArray (0, 0) d hg hu (by cases d <;> simp_all [TypeDesc.isRow]) (by simpa using hi)]

end Go.Proofs.YtmhigipljplgdaaDoor
