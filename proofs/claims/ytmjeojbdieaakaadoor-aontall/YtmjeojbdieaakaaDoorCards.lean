/-
  DERIVED. GIVEN WITH THE SEED: THE CARDS: each row of YtmjeojbdieaakaaDoorRows.lean that lists a variable, with what it lists TIED to the program's text (the seventh form; the later family's looks); each row that meets fmt, with fmt's text TOLD by the authors' own Lean function (tested against real Go, not proved from fmt's source: count such statements apart). THE CARD IS WHAT COUNTS. Prove the row's statement (the work); the ties are given (YtmjeojbdieaakaaDoorTie.lean); close each card by the builder's one call (the guide's Derived/Test/ToyasCard.lean, 'card_holds'). Laid BY PROGRAM, IN A SANDBOX (cutbox-door.mjs). By AI agents, Wed Nov 11 2026. No macro, syntax, notation, axiom, sorry.
-/
import Derived.Test.YtmjeojbdieaakaaDoorRows
import GoSem.ClaimSeven
namespace Go.Proofs.YtmjeojbdieaakaaDoor
namespace Rows

/-- THE TIED CARD OF 'scriniumlaw11.AontPack'. -/
def aontPackCard : Claim7 := { stood := { row := aontPackRow, standIns := [], harness := (true, "9165c860272ba40187923b1a9fa2d9a8107c7da4998a075409a8cf789e1f5a25"), looks := false }, kinds := [], alts := [], laidByText := true, laidKinds := [.data, .data], laidTests := true, laidLooks := .later }
def AontPackCardSaid : Prop := Claim7.holds Tryd.pinned (.plain (OpenSpec.ofChange aontPackSpec)) aontPackCard

/-- THE TIED CARD OF 'scriniumlaw11.AontUnpack'. -/
def aontUnpackCard : Claim7 := { stood := { row := aontUnpackRow, standIns := [], harness := (true, "9165c860272ba40187923b1a9fa2d9a8107c7da4998a075409a8cf789e1f5a25"), looks := false }, kinds := [], alts := [], laidByText := true, laidKinds := [.data, .data], laidTests := true, laidLooks := .later }
def AontUnpackCardSaid : Prop := Claim7.holds Tryd.pinned (.plain (OpenSpec.ofChange aontUnpackSpec)) aontUnpackCard

/-- THE TIED CARD OF 'scriniumlaw11.AontAll'. -/
def aontAllCard : Claim7 := { stood := { row := aontAllRow, standIns := [], harness := (true, "9165c860272ba40187923b1a9fa2d9a8107c7da4998a075409a8cf789e1f5a25"), looks := false }, kinds := [], alts := [], laidByText := true, laidKinds := [.data, .data], laidTests := true, laidLooks := .later }
def AontAllCardSaid : Prop := Claim7.holds Tryd.pinned (.plain (OpenSpec.ofChange aontAllSpec)) aontAllCard

/-- THE SECOND FORM's CARD OF 'scriniumlaw11.AontPack'. -/
def aontPackUptoCard : Claim7 := { stood := { row := aontPackUptoRow, standIns := [], harness := (true, "9165c860272ba40187923b1a9fa2d9a8107c7da4998a075409a8cf789e1f5a25"), looks := false }, kinds := [], alts := [], laidByText := true, laidKinds := [.data, .data], laidTests := true, laidLooks := .later }
def AontPackUptoCardSaid : Prop := Claim7.holds Tryd.pinned (.plain (OpenSpec.upto aontPackSpec)) aontPackUptoCard

/-- THE SECOND FORM's CARD OF 'scriniumlaw11.AontUnpack'. -/
def aontUnpackUptoCard : Claim7 := { stood := { row := aontUnpackUptoRow, standIns := [], harness := (true, "9165c860272ba40187923b1a9fa2d9a8107c7da4998a075409a8cf789e1f5a25"), looks := false }, kinds := [], alts := [], laidByText := true, laidKinds := [.data, .data], laidTests := true, laidLooks := .later }
def AontUnpackUptoCardSaid : Prop := Claim7.holds Tryd.pinned (.plain (OpenSpec.upto aontUnpackSpec)) aontUnpackUptoCard

/-- THE SECOND FORM's CARD OF 'scriniumlaw11.AontAll'. -/
def aontAllUptoCard : Claim7 := { stood := { row := aontAllUptoRow, standIns := [], harness := (true, "9165c860272ba40187923b1a9fa2d9a8107c7da4998a075409a8cf789e1f5a25"), looks := false }, kinds := [], alts := [], laidByText := true, laidKinds := [.data, .data], laidTests := true, laidLooks := .later }
def AontAllUptoCardSaid : Prop := Claim7.holds Tryd.pinned (.plain (OpenSpec.upto aontAllSpec)) aontAllUptoCard
end Rows
end Go.Proofs.YtmjeojbdieaakaaDoor
