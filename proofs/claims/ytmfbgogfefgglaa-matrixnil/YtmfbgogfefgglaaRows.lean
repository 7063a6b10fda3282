/-
  No cell of these rows narrows 'for every input' (looked for: loops, veiled, ifaces, maps, wideKeys, modest, calm, conditions, laid).
  DERIVED. THE GIVEN ROWS OF THIS SEAT. 7 by the template 'for every input the law returns true; each argument reads behind the call as it read before'; 0 by the template 'total and deterministic' (their statements: YtmfbgogfefgglaaTotals.lean).
  GIVEN WITH THE SEED: the statements are not yours to turn. If you find one false, say at which input.
  Laid BY PROGRAM, IN A SANDBOX (cutbox-rows.mjs): the forced cells as the released guide's own fill.sh prints them over the translation f1d5e1aa2c1154fa… (all of the seat's roots in one cut). By AI agents, Wed Nov 11 2026. No macro, syntax, notation, axiom, sorry.
-/
import Derived.Test.YtmfbgogfefgglaaChecked
import GoSem.Claim
import GoSem.ClaimJoined
import GoSem.ClaimMapViews
import Derived.JoinedTies
import Derived.KernelRfl
namespace Go.Proofs.Ytmfbgogfefgglaa
/- THE CELL 'sum', in the pinned program and in every row, IS THE sha256 OF THE DUMP (.gsa) THAT YtmfbgogfefgglaaProg.lean LOADS. Nothing in Lean hashes anything: it is a label: what it is worth is what the hold of that sum in a sandbox is worth. -/
noncomputable def Try.pinned : Pinned := { name := "ytmfbgogfefgglaa", sum := "f1d5e1aa2c1154fa223248beb830628b62cdffef9adb71e996709b1d10a7a21b", checked := Try.checked }
namespace Rows
def none {H : Type} : Left H := { results := [], args := [] }

/-- 'scriniumlaw08.MatrixMul': WHATEVER THE INPUT: true; the input reads as it did. -/
def matrixMulSpec : ChangeSpec := { name := "matrixMul", fn := fun _ => fun
  | [d1, d2] => { results := [.lit (.bool true)], args := [d1, d2] }
  | _ => none }
def matrixMulRow : OpenClaim := { program := "ytmfbgogfefgglaa", sum := "f1d5e1aa2c1154fa223248beb830628b62cdffef9adb71e996709b1d10a7a21b", func := "scrinium/scriniumlaw08.MatrixMul", spec := "matrixMul", unfollowed := true, recurses := true, apart := false }
def MatrixMulSaid : Prop := matrixMulRow.holds Try.pinned (OpenSpec.ofChange matrixMulSpec)

/-- ITS FALSE NEIGHBOUR: 'it returns false'. Refute it at one input. -/
def matrixMulWrong : ChangeSpec := { name := "matrixMul", fn := fun _ => fun
  | [d1, d2] => { results := [.lit (.bool false)], args := [d1, d2] }
  | _ => none }
def MatrixMulWrongFalsely : Prop := matrixMulRow.holds Try.pinned (OpenSpec.ofChange matrixMulWrong)

/-- 'scriniumlaw08.MatrixInverse': WHATEVER THE INPUT: true; the input reads as it did. -/
def matrixInverseSpec : ChangeSpec := { name := "matrixInverse", fn := fun _ => fun
  | [d] => { results := [.lit (.bool true)], args := [d] }
  | _ => none }
def matrixInverseRow : OpenClaim := { program := "ytmfbgogfefgglaa", sum := "f1d5e1aa2c1154fa223248beb830628b62cdffef9adb71e996709b1d10a7a21b", func := "scrinium/scriniumlaw08.MatrixInverse", spec := "matrixInverse", unfollowed := true, recurses := true, apart := false }
def MatrixInverseSaid : Prop := matrixInverseRow.holds Try.pinned (OpenSpec.ofChange matrixInverseSpec)

/-- ITS FALSE NEIGHBOUR: 'it returns false'. Refute it at one input. -/
def matrixInverseWrong : ChangeSpec := { name := "matrixInverse", fn := fun _ => fun
  | [d] => { results := [.lit (.bool false)], args := [d] }
  | _ => none }
def MatrixInverseWrongFalsely : Prop := matrixInverseRow.holds Try.pinned (OpenSpec.ofChange matrixInverseWrong)

/-- 'scriniumlaw08.MatrixCauchy': WHATEVER THE INPUT: true; the input reads as it did. -/
def matrixCauchySpec : ChangeSpec := { name := "matrixCauchy", fn := fun _ => fun
  | [d1, d2] => { results := [.lit (.bool true)], args := [d1, d2] }
  | _ => none }
def matrixCauchyRow : OpenClaim := { program := "ytmfbgogfefgglaa", sum := "f1d5e1aa2c1154fa223248beb830628b62cdffef9adb71e996709b1d10a7a21b", func := "scrinium/scriniumlaw08.MatrixCauchy", spec := "matrixCauchy", unfollowed := true, recurses := true, apart := false }
def MatrixCauchySaid : Prop := matrixCauchyRow.holds Try.pinned (OpenSpec.ofChange matrixCauchySpec)

/-- ITS FALSE NEIGHBOUR: 'it returns false'. Refute it at one input. -/
def matrixCauchyWrong : ChangeSpec := { name := "matrixCauchy", fn := fun _ => fun
  | [d1, d2] => { results := [.lit (.bool false)], args := [d1, d2] }
  | _ => none }
def MatrixCauchyWrongFalsely : Prop := matrixCauchyRow.holds Try.pinned (OpenSpec.ofChange matrixCauchyWrong)

/-- 'scriniumlaw08.MatrixSquare': WHATEVER THE INPUT: true; the input reads as it did. -/
def matrixSquareSpec : ChangeSpec := { name := "matrixSquare", fn := fun _ => fun
  | [d1, d2, d3] => { results := [.lit (.bool true)], args := [d1, d2, d3] }
  | _ => none }
def matrixSquareRow : OpenClaim := { program := "ytmfbgogfefgglaa", sum := "f1d5e1aa2c1154fa223248beb830628b62cdffef9adb71e996709b1d10a7a21b", func := "scrinium/scriniumlaw08.MatrixSquare", spec := "matrixSquare", unfollowed := true, recurses := true, apart := false }
def MatrixSquareSaid : Prop := matrixSquareRow.holds Try.pinned (OpenSpec.ofChange matrixSquareSpec)

/-- ITS FALSE NEIGHBOUR: 'it returns false'. Refute it at one input. -/
def matrixSquareWrong : ChangeSpec := { name := "matrixSquare", fn := fun _ => fun
  | [d1, d2, d3] => { results := [.lit (.bool false)], args := [d1, d2, d3] }
  | _ => none }
def MatrixSquareWrongFalsely : Prop := matrixSquareRow.holds Try.pinned (OpenSpec.ofChange matrixSquareWrong)

/-- 'scriniumlaw08.MatrixNil': WHATEVER THE INPUT: true; the input reads as it did. -/
def matrixNilSpec : ChangeSpec := { name := "matrixNil", fn := fun _ => fun
  | [d1, d2] => { results := [.lit (.bool true)], args := [d1, d2] }
  | _ => none }
def matrixNilRow : OpenClaim := { program := "ytmfbgogfefgglaa", sum := "f1d5e1aa2c1154fa223248beb830628b62cdffef9adb71e996709b1d10a7a21b", func := "scrinium/scriniumlaw08.MatrixNil", spec := "matrixNil", unfollowed := true, recurses := true, apart := false }
def MatrixNilSaid : Prop := matrixNilRow.holds Try.pinned (OpenSpec.ofChange matrixNilSpec)

/-- ITS FALSE NEIGHBOUR: 'it returns false'. Refute it at one input. -/
def matrixNilWrong : ChangeSpec := { name := "matrixNil", fn := fun _ => fun
  | [d1, d2] => { results := [.lit (.bool false)], args := [d1, d2] }
  | _ => none }
def MatrixNilWrongFalsely : Prop := matrixNilRow.holds Try.pinned (OpenSpec.ofChange matrixNilWrong)

/-- 'scriniumlaw08.MatrixGroups': WHATEVER THE INPUT: true; the input reads as it did. -/
def matrixGroupsSpec : ChangeSpec := { name := "matrixGroups", fn := fun _ => fun
  | [d1, d2, d3] => { results := [.lit (.bool true)], args := [d1, d2, d3] }
  | _ => none }
def matrixGroupsRow : OpenClaim := { program := "ytmfbgogfefgglaa", sum := "f1d5e1aa2c1154fa223248beb830628b62cdffef9adb71e996709b1d10a7a21b", func := "scrinium/scriniumlaw08.MatrixGroups", spec := "matrixGroups", unfollowed := true, recurses := true, apart := false }
def MatrixGroupsSaid : Prop := matrixGroupsRow.holds Try.pinned (OpenSpec.ofChange matrixGroupsSpec)

/-- ITS FALSE NEIGHBOUR: 'it returns false'. Refute it at one input. -/
def matrixGroupsWrong : ChangeSpec := { name := "matrixGroups", fn := fun _ => fun
  | [d1, d2, d3] => { results := [.lit (.bool false)], args := [d1, d2, d3] }
  | _ => none }
def MatrixGroupsWrongFalsely : Prop := matrixGroupsRow.holds Try.pinned (OpenSpec.ofChange matrixGroupsWrong)

/-- 'scriniumlaw08.MatrixRanks': WHATEVER THE INPUT: true; the input reads as it did. -/
def matrixRanksSpec : ChangeSpec := { name := "matrixRanks", fn := fun _ => fun
  | [d1, d2, d3] => { results := [.lit (.bool true)], args := [d1, d2, d3] }
  | _ => none }
def matrixRanksRow : OpenClaim := { program := "ytmfbgogfefgglaa", sum := "f1d5e1aa2c1154fa223248beb830628b62cdffef9adb71e996709b1d10a7a21b", func := "scrinium/scriniumlaw08.MatrixRanks", spec := "matrixRanks", unfollowed := true, recurses := true, apart := false }
def MatrixRanksSaid : Prop := matrixRanksRow.holds Try.pinned (OpenSpec.ofChange matrixRanksSpec)

/-- ITS FALSE NEIGHBOUR: 'it returns false'. Refute it at one input. -/
def matrixRanksWrong : ChangeSpec := { name := "matrixRanks", fn := fun _ => fun
  | [d1, d2, d3] => { results := [.lit (.bool false)], args := [d1, d2, d3] }
  | _ => none }
def MatrixRanksWrongFalsely : Prop := matrixRanksRow.holds Try.pinned (OpenSpec.ofChange matrixRanksWrong)

/- THE SECOND FORM. 'bulk': how many values and letters a reading holds, each counted each time it is reached (what is shared counts as often as it is met; a slice's spare places count too). A statement '..UptoSaid' is the law's where the arguments, and the package variables that the reading takes, are together of bulk at most 1048576: NARROWER than '..Said'. Prove '..Said' where nothing that the law and all that it calls make is longer than what came in: it says more and counts as full. Else prove '..UptoSaid'. A law counts once. -/
mutual
def uptoBulk {H : Type} : DataW H → Nat
  | .lit (.string bytes) => bytes.length + 1
  | .lit _ => 1
  | .nil => 1
  | .ptr d => uptoBulk d + 1
  | .slice elems spare => uptoBulkAll elems + uptoBulkAll spare + 1
  | .agg parts => uptoBulkAll parts + 1
  | .iface _ d => uptoBulk d + 1
  | .map entries => uptoBulkEntries entries + 1
  | .held _ => 1
def uptoBulkAll {H : Type} : List (DataW H) → Nat
  | [] => 0
  | d :: r => uptoBulk d + uptoBulkAll r
def uptoBulkEntries {H : Type} : List (Lit × DataW H) → Nat
  | [] => 0
  | x :: r => uptoBulkEntry x + uptoBulkEntries r
def uptoBulkEntry {H : Type} : Lit × DataW H → Nat
  | (.string bytes, d) => bytes.length + uptoBulk d + 1
  | (_, d) => uptoBulk d + 1
 end
def uptoSmall : (H : Type) → List (DataW H) → Bool := fun _ ds => decide (uptoBulkAll ds ≤ 1048576)
def OpenSpec.upto (s : _root_.Go.ChangeSpec) : _root_.Go.OpenSpec := { _root_.Go.OpenSpec.ofChange s with cond := some uptoSmall }

/-- 'scriniumlaw08.MatrixMul', WHERE WHAT IT READS IS OF BULK AT MOST 1048576: true; the input reads as it did. -/
def matrixMulUptoRow : OpenClaim := { program := "ytmfbgogfefgglaa", sum := "f1d5e1aa2c1154fa223248beb830628b62cdffef9adb71e996709b1d10a7a21b", func := "scrinium/scriniumlaw08.MatrixMul", spec := "matrixMul", unfollowed := true, recurses := true, apart := false, narrowed := true }
def MatrixMulUptoSaid : Prop := matrixMulUptoRow.holds Try.pinned (OpenSpec.upto matrixMulSpec)

/-- 'scriniumlaw08.MatrixInverse', WHERE WHAT IT READS IS OF BULK AT MOST 1048576: true; the input reads as it did. -/
def matrixInverseUptoRow : OpenClaim := { program := "ytmfbgogfefgglaa", sum := "f1d5e1aa2c1154fa223248beb830628b62cdffef9adb71e996709b1d10a7a21b", func := "scrinium/scriniumlaw08.MatrixInverse", spec := "matrixInverse", unfollowed := true, recurses := true, apart := false, narrowed := true }
def MatrixInverseUptoSaid : Prop := matrixInverseUptoRow.holds Try.pinned (OpenSpec.upto matrixInverseSpec)

/-- 'scriniumlaw08.MatrixCauchy', WHERE WHAT IT READS IS OF BULK AT MOST 1048576: true; the input reads as it did. -/
def matrixCauchyUptoRow : OpenClaim := { program := "ytmfbgogfefgglaa", sum := "f1d5e1aa2c1154fa223248beb830628b62cdffef9adb71e996709b1d10a7a21b", func := "scrinium/scriniumlaw08.MatrixCauchy", spec := "matrixCauchy", unfollowed := true, recurses := true, apart := false, narrowed := true }
def MatrixCauchyUptoSaid : Prop := matrixCauchyUptoRow.holds Try.pinned (OpenSpec.upto matrixCauchySpec)

/-- 'scriniumlaw08.MatrixSquare', WHERE WHAT IT READS IS OF BULK AT MOST 1048576: true; the input reads as it did. -/
def matrixSquareUptoRow : OpenClaim := { program := "ytmfbgogfefgglaa", sum := "f1d5e1aa2c1154fa223248beb830628b62cdffef9adb71e996709b1d10a7a21b", func := "scrinium/scriniumlaw08.MatrixSquare", spec := "matrixSquare", unfollowed := true, recurses := true, apart := false, narrowed := true }
def MatrixSquareUptoSaid : Prop := matrixSquareUptoRow.holds Try.pinned (OpenSpec.upto matrixSquareSpec)

/-- 'scriniumlaw08.MatrixNil', WHERE WHAT IT READS IS OF BULK AT MOST 1048576: true; the input reads as it did. -/
def matrixNilUptoRow : OpenClaim := { program := "ytmfbgogfefgglaa", sum := "f1d5e1aa2c1154fa223248beb830628b62cdffef9adb71e996709b1d10a7a21b", func := "scrinium/scriniumlaw08.MatrixNil", spec := "matrixNil", unfollowed := true, recurses := true, apart := false, narrowed := true }
def MatrixNilUptoSaid : Prop := matrixNilUptoRow.holds Try.pinned (OpenSpec.upto matrixNilSpec)

/-- 'scriniumlaw08.MatrixGroups', WHERE WHAT IT READS IS OF BULK AT MOST 1048576: true; the input reads as it did. -/
def matrixGroupsUptoRow : OpenClaim := { program := "ytmfbgogfefgglaa", sum := "f1d5e1aa2c1154fa223248beb830628b62cdffef9adb71e996709b1d10a7a21b", func := "scrinium/scriniumlaw08.MatrixGroups", spec := "matrixGroups", unfollowed := true, recurses := true, apart := false, narrowed := true }
def MatrixGroupsUptoSaid : Prop := matrixGroupsUptoRow.holds Try.pinned (OpenSpec.upto matrixGroupsSpec)

/-- 'scriniumlaw08.MatrixRanks', WHERE WHAT IT READS IS OF BULK AT MOST 1048576: true; the input reads as it did. -/
def matrixRanksUptoRow : OpenClaim := { program := "ytmfbgogfefgglaa", sum := "f1d5e1aa2c1154fa223248beb830628b62cdffef9adb71e996709b1d10a7a21b", func := "scrinium/scriniumlaw08.MatrixRanks", spec := "matrixRanks", unfollowed := true, recurses := true, apart := false, narrowed := true }
def MatrixRanksUptoSaid : Prop := matrixRanksUptoRow.holds Try.pinned (OpenSpec.upto matrixRanksSpec)

end Rows
end Go.Proofs.Ytmfbgogfefgglaa
