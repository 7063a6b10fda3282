/-
  No cell of these rows narrows 'for every input' (looked for: loops, veiled, ifaces, maps, wideKeys, modest, calm, conditions, laid).
  DERIVED. THE GIVEN ROWS OF THIS SEAT. 6 by the template 'for every input the law returns true; each argument reads behind the call as it read before'; 0 by the template 'total and deterministic' (their statements: YtpnpimhfakfolaaTotals.lean).
  GIVEN WITH THE SEED: the statements are not yours to turn. If you find one false, say at which input.
  Laid BY PROGRAM, IN A SANDBOX (cutbox-rows.mjs): the forced cells as the released guide's own fill.sh prints them over the translation 5a26dfd91eeab49d… (all of the seat's roots in one cut). By AI agents, Wed Nov 11 2026. No macro, syntax, notation, axiom, sorry.
-/
import Derived.Test.YtpnpimhfakfolaaChecked
import GoSem.Claim
import GoSem.ClaimJoined
import GoSem.ClaimMapViews
import Derived.JoinedTies
import Derived.KernelRfl
namespace Go.Proofs.Ytpnpimhfakfolaa
/- THE CELL 'sum', in the pinned program and in every row, IS THE sha256 OF THE DUMP (.gsa) THAT YtpnpimhfakfolaaProg.lean LOADS. Nothing in Lean hashes anything: it is a label: what it is worth is what the hold of that sum in a sandbox is worth. -/
noncomputable def Try.pinned : Pinned := { name := "ytpnpimhfakfolaa", sum := "5a26dfd91eeab49dc5cb264dceb53809dd1d5e192f7e9e5ed92480832626f6f1", checked := Try.checked }
namespace Rows
def none {H : Type} : Left H := { results := [], args := [] }

/-- 'scriniumlaw09.RsEncode': WHATEVER THE INPUT: true; the input reads as it did. -/
def rsEncodeSpec : ChangeSpec := { name := "rsEncode", fn := fun _ => fun
  | [d1, d2, d3] => { results := [.lit (.bool true)], args := [d1, d2, d3] }
  | _ => none }
def rsEncodeRow : OpenClaim := { program := "ytpnpimhfakfolaa", sum := "5a26dfd91eeab49dc5cb264dceb53809dd1d5e192f7e9e5ed92480832626f6f1", func := "scrinium/scriniumlaw09.RsEncode", spec := "rsEncode", unfollowed := true, recurses := true, apart := false }
def RsEncodeSaid : Prop := rsEncodeRow.holds Try.pinned (OpenSpec.ofChange rsEncodeSpec)

/-- ITS FALSE NEIGHBOUR: 'it returns false'. Refute it at one input. -/
def rsEncodeWrong : ChangeSpec := { name := "rsEncode", fn := fun _ => fun
  | [d1, d2, d3] => { results := [.lit (.bool false)], args := [d1, d2, d3] }
  | _ => none }
def RsEncodeWrongFalsely : Prop := rsEncodeRow.holds Try.pinned (OpenSpec.ofChange rsEncodeWrong)

/-- 'scriniumlaw09.RsDecode': WHATEVER THE INPUT: true; the input reads as it did. -/
def rsDecodeSpec : ChangeSpec := { name := "rsDecode", fn := fun _ => fun
  | [d1, d2, d3] => { results := [.lit (.bool true)], args := [d1, d2, d3] }
  | _ => none }
def rsDecodeRow : OpenClaim := { program := "ytpnpimhfakfolaa", sum := "5a26dfd91eeab49dc5cb264dceb53809dd1d5e192f7e9e5ed92480832626f6f1", func := "scrinium/scriniumlaw09.RsDecode", spec := "rsDecode", unfollowed := true, recurses := true, apart := false }
def RsDecodeSaid : Prop := rsDecodeRow.holds Try.pinned (OpenSpec.ofChange rsDecodeSpec)

/-- ITS FALSE NEIGHBOUR: 'it returns false'. Refute it at one input. -/
def rsDecodeWrong : ChangeSpec := { name := "rsDecode", fn := fun _ => fun
  | [d1, d2, d3] => { results := [.lit (.bool false)], args := [d1, d2, d3] }
  | _ => none }
def RsDecodeWrongFalsely : Prop := rsDecodeRow.holds Try.pinned (OpenSpec.ofChange rsDecodeWrong)

/-- 'scriniumlaw09.RsAny': WHATEVER THE INPUT: true; the input reads as it did. -/
def rsAnySpec : ChangeSpec := { name := "rsAny", fn := fun _ => fun
  | [d1, d2, d3] => { results := [.lit (.bool true)], args := [d1, d2, d3] }
  | _ => none }
def rsAnyRow : OpenClaim := { program := "ytpnpimhfakfolaa", sum := "5a26dfd91eeab49dc5cb264dceb53809dd1d5e192f7e9e5ed92480832626f6f1", func := "scrinium/scriniumlaw09.RsAny", spec := "rsAny", unfollowed := true, recurses := true, apart := false }
def RsAnySaid : Prop := rsAnyRow.holds Try.pinned (OpenSpec.ofChange rsAnySpec)

/-- ITS FALSE NEIGHBOUR: 'it returns false'. Refute it at one input. -/
def rsAnyWrong : ChangeSpec := { name := "rsAny", fn := fun _ => fun
  | [d1, d2, d3] => { results := [.lit (.bool false)], args := [d1, d2, d3] }
  | _ => none }
def RsAnyWrongFalsely : Prop := rsAnyRow.holds Try.pinned (OpenSpec.ofChange rsAnyWrong)

/-- 'scriniumlaw09.RsLess': WHATEVER THE INPUT: true; the input reads as it did. -/
def rsLessSpec : ChangeSpec := { name := "rsLess", fn := fun _ => fun
  | [d1, d2, d3] => { results := [.lit (.bool true)], args := [d1, d2, d3] }
  | _ => none }
def rsLessRow : OpenClaim := { program := "ytpnpimhfakfolaa", sum := "5a26dfd91eeab49dc5cb264dceb53809dd1d5e192f7e9e5ed92480832626f6f1", func := "scrinium/scriniumlaw09.RsLess", spec := "rsLess", unfollowed := true, recurses := true, apart := false }
def RsLessSaid : Prop := rsLessRow.holds Try.pinned (OpenSpec.ofChange rsLessSpec)

/-- ITS FALSE NEIGHBOUR: 'it returns false'. Refute it at one input. -/
def rsLessWrong : ChangeSpec := { name := "rsLess", fn := fun _ => fun
  | [d1, d2, d3] => { results := [.lit (.bool false)], args := [d1, d2, d3] }
  | _ => none }
def RsLessWrongFalsely : Prop := rsLessRow.holds Try.pinned (OpenSpec.ofChange rsLessWrong)

/-- 'scriniumlaw09.RsNil': WHATEVER THE INPUT: true; the input reads as it did. -/
def rsNilSpec : ChangeSpec := { name := "rsNil", fn := fun _ => fun
  | [d1, d2] => { results := [.lit (.bool true)], args := [d1, d2] }
  | _ => none }
def rsNilRow : OpenClaim := { program := "ytpnpimhfakfolaa", sum := "5a26dfd91eeab49dc5cb264dceb53809dd1d5e192f7e9e5ed92480832626f6f1", func := "scrinium/scriniumlaw09.RsNil", spec := "rsNil", unfollowed := true, recurses := true, apart := false }
def RsNilSaid : Prop := rsNilRow.holds Try.pinned (OpenSpec.ofChange rsNilSpec)

/-- ITS FALSE NEIGHBOUR: 'it returns false'. Refute it at one input. -/
def rsNilWrong : ChangeSpec := { name := "rsNil", fn := fun _ => fun
  | [d1, d2] => { results := [.lit (.bool false)], args := [d1, d2] }
  | _ => none }
def RsNilWrongFalsely : Prop := rsNilRow.holds Try.pinned (OpenSpec.ofChange rsNilWrong)

/-- 'scriniumlaw09.RsLinear': WHATEVER THE INPUT: true; the input reads as it did. -/
def rsLinearSpec : ChangeSpec := { name := "rsLinear", fn := fun _ => fun
  | [d1, d2, d3] => { results := [.lit (.bool true)], args := [d1, d2, d3] }
  | _ => none }
def rsLinearRow : OpenClaim := { program := "ytpnpimhfakfolaa", sum := "5a26dfd91eeab49dc5cb264dceb53809dd1d5e192f7e9e5ed92480832626f6f1", func := "scrinium/scriniumlaw09.RsLinear", spec := "rsLinear", unfollowed := true, recurses := true, apart := false }
def RsLinearSaid : Prop := rsLinearRow.holds Try.pinned (OpenSpec.ofChange rsLinearSpec)

/-- ITS FALSE NEIGHBOUR: 'it returns false'. Refute it at one input. -/
def rsLinearWrong : ChangeSpec := { name := "rsLinear", fn := fun _ => fun
  | [d1, d2, d3] => { results := [.lit (.bool false)], args := [d1, d2, d3] }
  | _ => none }
def RsLinearWrongFalsely : Prop := rsLinearRow.holds Try.pinned (OpenSpec.ofChange rsLinearWrong)

/- THE SECOND FORM. 'bulk': how many values and letters a reading holds, each counted each time it is reached (what is shared counts as often as it is met; a slice's spare places count too). A statement '..UptoSaid' is the law's where the arguments, and the package variables that the reading takes, are together of bulk at most 1048576: NARROWER than '..Said'. Prove '..Said' where nothing that the law and all that it calls make is longer than what came in: it says more and counts as full. Else prove '..UptoSaid'. A law counts once. -/
mutual
def uptoBulk {H : Type} : DataW H → Nat
  | .lit (.string bytes) => bytes.length + 1
  | .lit _ => 1
  | .nil => 1
  | .ptr d => uptoBulk d + 1
  | .slice elems spare => uptoBulkAll elems + uptoBulkAll spare + 1
  | .agg parts => uptoBulkAll parts + 1
  | .iface _ d => uptoBulk d + 1
  | .map entries => uptoBulkEntries entries + 1
  | .held _ => 1
def uptoBulkAll {H : Type} : List (DataW H) → Nat
  | [] => 0
  | d :: r => uptoBulk d + uptoBulkAll r
def uptoBulkEntries {H : Type} : List (Lit × DataW H) → Nat
  | [] => 0
  | x :: r => uptoBulkEntry x + uptoBulkEntries r
def uptoBulkEntry {H : Type} : Lit × DataW H → Nat
  | (.string bytes, d) => bytes.length + uptoBulk d + 1
  | (_, d) => uptoBulk d + 1
 end
def uptoSmall : (H : Type) → List (DataW H) → Bool := fun _ ds => decide (uptoBulkAll ds ≤ 1048576)
def OpenSpec.upto (s : _root_.Go.ChangeSpec) : _root_.Go.OpenSpec := { _root_.Go.OpenSpec.ofChange s with cond := some uptoSmall }

/-- 'scriniumlaw09.RsEncode', WHERE WHAT IT READS IS OF BULK AT MOST 1048576: true; the input reads as it did. -/
def rsEncodeUptoRow : OpenClaim := { program := "ytpnpimhfakfolaa", sum := "5a26dfd91eeab49dc5cb264dceb53809dd1d5e192f7e9e5ed92480832626f6f1", func := "scrinium/scriniumlaw09.RsEncode", spec := "rsEncode", unfollowed := true, recurses := true, apart := false, narrowed := true }
def RsEncodeUptoSaid : Prop := rsEncodeUptoRow.holds Try.pinned (OpenSpec.upto rsEncodeSpec)

/-- 'scriniumlaw09.RsDecode', WHERE WHAT IT READS IS OF BULK AT MOST 1048576: true; the input reads as it did. -/
def rsDecodeUptoRow : OpenClaim := { program := "ytpnpimhfakfolaa", sum := "5a26dfd91eeab49dc5cb264dceb53809dd1d5e192f7e9e5ed92480832626f6f1", func := "scrinium/scriniumlaw09.RsDecode", spec := "rsDecode", unfollowed := true, recurses := true, apart := false, narrowed := true }
def RsDecodeUptoSaid : Prop := rsDecodeUptoRow.holds Try.pinned (OpenSpec.upto rsDecodeSpec)

/-- 'scriniumlaw09.RsAny', WHERE WHAT IT READS IS OF BULK AT MOST 1048576: true; the input reads as it did. -/
def rsAnyUptoRow : OpenClaim := { program := "ytpnpimhfakfolaa", sum := "5a26dfd91eeab49dc5cb264dceb53809dd1d5e192f7e9e5ed92480832626f6f1", func := "scrinium/scriniumlaw09.RsAny", spec := "rsAny", unfollowed := true, recurses := true, apart := false, narrowed := true }
def RsAnyUptoSaid : Prop := rsAnyUptoRow.holds Try.pinned (OpenSpec.upto rsAnySpec)

/-- 'scriniumlaw09.RsLess', WHERE WHAT IT READS IS OF BULK AT MOST 1048576: true; the input reads as it did. -/
def rsLessUptoRow : OpenClaim := { program := "ytpnpimhfakfolaa", sum := "5a26dfd91eeab49dc5cb264dceb53809dd1d5e192f7e9e5ed92480832626f6f1", func := "scrinium/scriniumlaw09.RsLess", spec := "rsLess", unfollowed := true, recurses := true, apart := false, narrowed := true }
def RsLessUptoSaid : Prop := rsLessUptoRow.holds Try.pinned (OpenSpec.upto rsLessSpec)

/-- 'scriniumlaw09.RsNil', WHERE WHAT IT READS IS OF BULK AT MOST 1048576: true; the input reads as it did. -/
def rsNilUptoRow : OpenClaim := { program := "ytpnpimhfakfolaa", sum := "5a26dfd91eeab49dc5cb264dceb53809dd1d5e192f7e9e5ed92480832626f6f1", func := "scrinium/scriniumlaw09.RsNil", spec := "rsNil", unfollowed := true, recurses := true, apart := false, narrowed := true }
def RsNilUptoSaid : Prop := rsNilUptoRow.holds Try.pinned (OpenSpec.upto rsNilSpec)

/-- 'scriniumlaw09.RsLinear', WHERE WHAT IT READS IS OF BULK AT MOST 1048576: true; the input reads as it did. -/
def rsLinearUptoRow : OpenClaim := { program := "ytpnpimhfakfolaa", sum := "5a26dfd91eeab49dc5cb264dceb53809dd1d5e192f7e9e5ed92480832626f6f1", func := "scrinium/scriniumlaw09.RsLinear", spec := "rsLinear", unfollowed := true, recurses := true, apart := false, narrowed := true }
def RsLinearUptoSaid : Prop := rsLinearUptoRow.holds Try.pinned (OpenSpec.upto rsLinearSpec)

end Rows
end Go.Proofs.Ytpnpimhfakfolaa
