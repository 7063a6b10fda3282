/-
  No cell of these rows narrows 'for every input' (looked for: loops, veiled, ifaces, maps, wideKeys, modest, calm, conditions, laid).
  DERIVED. THE GIVEN ROWS OF THIS SEAT. 4 by the template 'for every input the law returns true; each argument reads behind the call as it read before'; 0 by the template 'total and deterministic' (their statements: YtboienifeciidaaTotals.lean).
  GIVEN WITH THE SEED: the statements are not yours to turn. If you find one false, say at which input.
  Laid BY PROGRAM, IN A SANDBOX (cutbox-rows.mjs): the forced cells as the released guide's own fill.sh prints them over the translation 62e2ec14fbd2e65d… (all of the seat's roots in one cut). By AI agents, Wed Nov 11 2026. No macro, syntax, notation, axiom, sorry.
-/
import Derived.Test.YtboienifeciidaaChecked
import GoSem.Claim
import GoSem.ClaimJoined
import GoSem.ClaimMapViews
import Derived.JoinedTies
import Derived.KernelRfl
namespace Go.Proofs.Ytboienifeciidaa
/- THE CELL 'sum', in the pinned program and in every row, IS THE sha256 OF THE DUMP (.gsa) THAT YtboienifeciidaaProg.lean LOADS. Nothing in Lean hashes anything: it is a label: what it is worth is what the hold of that sum in a sandbox is worth. -/
noncomputable def Try.pinned : Pinned := { name := "ytboienifeciidaa", sum := "62e2ec14fbd2e65d78e7df07e827b7e712867999f5f6b94a74185ecf19d74aa7", checked := Try.checked }
namespace Rows
def none {H : Type} : Left H := { results := [], args := [] }

/-- 'scriniumlaw10.NamesRight': WHATEVER THE INPUT: true; the input reads as it did. -/
def namesRightSpec : ChangeSpec := { name := "namesRight", fn := fun _ => fun
  | [d] => { results := [.lit (.bool true)], args := [d] }
  | _ => none }
def namesRightRow : OpenClaim := { program := "ytboienifeciidaa", sum := "62e2ec14fbd2e65d78e7df07e827b7e712867999f5f6b94a74185ecf19d74aa7", func := "scrinium/scriniumlaw10.NamesRight", spec := "namesRight", inPlace := ["internal/abi.NoEscape"], apart := false }
def NamesRightSaid : Prop := namesRightRow.holds Try.pinned (OpenSpec.ofChange namesRightSpec)

/-- ITS FALSE NEIGHBOUR: 'it returns false'. Refute it at one input. -/
def namesRightWrong : ChangeSpec := { name := "namesRight", fn := fun _ => fun
  | [d] => { results := [.lit (.bool false)], args := [d] }
  | _ => none }
def NamesRightWrongFalsely : Prop := namesRightRow.holds Try.pinned (OpenSpec.ofChange namesRightWrong)

/-- 'scriniumlaw10.NamesPlain': WHATEVER THE INPUT: true; the input reads as it did. -/
def namesPlainSpec : ChangeSpec := { name := "namesPlain", fn := fun _ => fun
  | [d] => { results := [.lit (.bool true)], args := [d] }
  | _ => none }
def namesPlainRow : OpenClaim := { program := "ytboienifeciidaa", sum := "62e2ec14fbd2e65d78e7df07e827b7e712867999f5f6b94a74185ecf19d74aa7", func := "scrinium/scriniumlaw10.NamesPlain", spec := "namesPlain", inPlace := ["internal/abi.NoEscape"], apart := false }
def NamesPlainSaid : Prop := namesPlainRow.holds Try.pinned (OpenSpec.ofChange namesPlainSpec)

/-- ITS FALSE NEIGHBOUR: 'it returns false'. Refute it at one input. -/
def namesPlainWrong : ChangeSpec := { name := "namesPlain", fn := fun _ => fun
  | [d] => { results := [.lit (.bool false)], args := [d] }
  | _ => none }
def NamesPlainWrongFalsely : Prop := namesPlainRow.holds Try.pinned (OpenSpec.ofChange namesPlainWrong)

/-- 'scriniumlaw10.NamesWord': WHATEVER THE INPUT: true; the input reads as it did. -/
def namesWordSpec : ChangeSpec := { name := "namesWord", fn := fun _ => fun
  | [d1, d2] => { results := [.lit (.bool true)], args := [d1, d2] }
  | _ => none }
def namesWordRow : OpenClaim := { program := "ytboienifeciidaa", sum := "62e2ec14fbd2e65d78e7df07e827b7e712867999f5f6b94a74185ecf19d74aa7", func := "scrinium/scriniumlaw10.NamesWord", spec := "namesWord", inPlace := ["internal/abi.NoEscape", "internal/bytealg.IndexByteString"], apart := false }
def NamesWordSaid : Prop := namesWordRow.holds Try.pinned (OpenSpec.ofChange namesWordSpec)

/-- ITS FALSE NEIGHBOUR: 'it returns false'. Refute it at one input. -/
def namesWordWrong : ChangeSpec := { name := "namesWord", fn := fun _ => fun
  | [d1, d2] => { results := [.lit (.bool false)], args := [d1, d2] }
  | _ => none }
def NamesWordWrongFalsely : Prop := namesWordRow.holds Try.pinned (OpenSpec.ofChange namesWordWrong)

/-- 'scriniumlaw10.NamesBoth': WHATEVER THE INPUT: true; the input reads as it did. -/
def namesBothSpec : ChangeSpec := { name := "namesBoth", fn := fun _ => fun
  | [d1, d2] => { results := [.lit (.bool true)], args := [d1, d2] }
  | _ => none }
def namesBothRow : OpenClaim := { program := "ytboienifeciidaa", sum := "62e2ec14fbd2e65d78e7df07e827b7e712867999f5f6b94a74185ecf19d74aa7", func := "scrinium/scriniumlaw10.NamesBoth", spec := "namesBoth", inPlace := ["internal/abi.NoEscape"], apart := false }
def NamesBothSaid : Prop := namesBothRow.holds Try.pinned (OpenSpec.ofChange namesBothSpec)

/-- ITS FALSE NEIGHBOUR: 'it returns false'. Refute it at one input. -/
def namesBothWrong : ChangeSpec := { name := "namesBoth", fn := fun _ => fun
  | [d1, d2] => { results := [.lit (.bool false)], args := [d1, d2] }
  | _ => none }
def NamesBothWrongFalsely : Prop := namesBothRow.holds Try.pinned (OpenSpec.ofChange namesBothWrong)

/- THE SECOND FORM. 'bulk': how many values and letters a reading holds, each counted each time it is reached (what is shared counts as often as it is met; a slice's spare places count too). A statement '..UptoSaid' is the law's where the arguments, and the package variables that the reading takes, are together of bulk at most 1048576: NARROWER than '..Said'. Prove '..Said' where nothing that the law and all that it calls make is longer than what came in: it says more and counts as full. Else prove '..UptoSaid'. A law counts once. -/
mutual
def uptoBulk {H : Type} : DataW H → Nat
  | .lit (.string bytes) => bytes.length + 1
  | .lit _ => 1
  | .nil => 1
  | .ptr d => uptoBulk d + 1
  | .slice elems spare => uptoBulkAll elems + uptoBulkAll spare + 1
  | .agg parts => uptoBulkAll parts + 1
  | .iface _ d => uptoBulk d + 1
  | .map entries => uptoBulkEntries entries + 1
  | .held _ => 1
def uptoBulkAll {H : Type} : List (DataW H) → Nat
  | [] => 0
  | d :: r => uptoBulk d + uptoBulkAll r
def uptoBulkEntries {H : Type} : List (Lit × DataW H) → Nat
  | [] => 0
  | x :: r => uptoBulkEntry x + uptoBulkEntries r
def uptoBulkEntry {H : Type} : Lit × DataW H → Nat
  | (.string bytes, d) => bytes.length + uptoBulk d + 1
  | (_, d) => uptoBulk d + 1
 end
def uptoSmall : (H : Type) → List (DataW H) → Bool := fun _ ds => decide (uptoBulkAll ds ≤ 1048576)
def OpenSpec.upto (s : _root_.Go.ChangeSpec) : _root_.Go.OpenSpec := { _root_.Go.OpenSpec.ofChange s with cond := some uptoSmall }

/-- 'scriniumlaw10.NamesRight', WHERE WHAT IT READS IS OF BULK AT MOST 1048576: true; the input reads as it did. -/
def namesRightUptoRow : OpenClaim := { program := "ytboienifeciidaa", sum := "62e2ec14fbd2e65d78e7df07e827b7e712867999f5f6b94a74185ecf19d74aa7", func := "scrinium/scriniumlaw10.NamesRight", spec := "namesRight", inPlace := ["internal/abi.NoEscape"], apart := false, narrowed := true }
def NamesRightUptoSaid : Prop := namesRightUptoRow.holds Try.pinned (OpenSpec.upto namesRightSpec)

/-- 'scriniumlaw10.NamesPlain', WHERE WHAT IT READS IS OF BULK AT MOST 1048576: true; the input reads as it did. -/
def namesPlainUptoRow : OpenClaim := { program := "ytboienifeciidaa", sum := "62e2ec14fbd2e65d78e7df07e827b7e712867999f5f6b94a74185ecf19d74aa7", func := "scrinium/scriniumlaw10.NamesPlain", spec := "namesPlain", inPlace := ["internal/abi.NoEscape"], apart := false, narrowed := true }
def NamesPlainUptoSaid : Prop := namesPlainUptoRow.holds Try.pinned (OpenSpec.upto namesPlainSpec)

/-- 'scriniumlaw10.NamesWord', WHERE WHAT IT READS IS OF BULK AT MOST 1048576: true; the input reads as it did. -/
def namesWordUptoRow : OpenClaim := { program := "ytboienifeciidaa", sum := "62e2ec14fbd2e65d78e7df07e827b7e712867999f5f6b94a74185ecf19d74aa7", func := "scrinium/scriniumlaw10.NamesWord", spec := "namesWord", inPlace := ["internal/abi.NoEscape", "internal/bytealg.IndexByteString"], apart := false, narrowed := true }
def NamesWordUptoSaid : Prop := namesWordUptoRow.holds Try.pinned (OpenSpec.upto namesWordSpec)

/-- 'scriniumlaw10.NamesBoth', WHERE WHAT IT READS IS OF BULK AT MOST 1048576: true; the input reads as it did. -/
def namesBothUptoRow : OpenClaim := { program := "ytboienifeciidaa", sum := "62e2ec14fbd2e65d78e7df07e827b7e712867999f5f6b94a74185ecf19d74aa7", func := "scrinium/scriniumlaw10.NamesBoth", spec := "namesBoth", inPlace := ["internal/abi.NoEscape"], apart := false, narrowed := true }
def NamesBothUptoSaid : Prop := namesBothUptoRow.holds Try.pinned (OpenSpec.upto namesBothSpec)

end Rows
end Go.Proofs.Ytboienifeciidaa
