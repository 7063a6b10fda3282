/-
  DERIVED. GIVEN WITH THE SEED: THE CARDS: each row of YtckffideobjlfaaDoorRows.lean that lists a variable, with what it lists TIED to the program's text (the seventh form; the later family's looks); each row that meets fmt, with fmt's text TOLD by the authors' own Lean function (tested against real Go, not proved from fmt's source: count such statements apart). THE CARD IS WHAT COUNTS. Prove the row's statement (the work); the ties are given (YtckffideobjlfaaDoorTie.lean); close each card by the builder's one call (the guide's Derived/Test/ToyasCard.lean, 'card_holds'). Laid BY PROGRAM, IN A SANDBOX (cutbox-door.mjs). By AI agents, Wed Nov 11 2026. No macro, syntax, notation, axiom, sorry.
-/
import Derived.Test.YtckffideobjlfaaDoorRows
import GoSem.ClaimSeven
namespace Go.Proofs.YtckffideobjlfaaDoor
namespace Rows

/-- THE TIED CARD OF 'scriniumlaw04.HkdfExtract'. -/
def hkdfExtractCard : Claim7 := { stood := { row := hkdfExtractRow, standIns := [], harness := (true, "2b7a7527f429d59a3a9ade3c061be14f60cd6fcd09be7d6e11fb1b5d31d2ec48"), looks := false }, kinds := [], alts := [], laidByText := true, laidKinds := [.data, .data], laidTests := true, laidLooks := .later }
def HkdfExtractCardSaid : Prop := Claim7.holds Tryd.pinned (.plain (OpenSpec.ofChange hkdfExtractSpec)) hkdfExtractCard

/-- THE TIED CARD OF 'scriniumlaw04.HkdfExpand'. -/
def hkdfExpandCard : Claim7 := { stood := { row := hkdfExpandRow, standIns := [], harness := (true, "2b7a7527f429d59a3a9ade3c061be14f60cd6fcd09be7d6e11fb1b5d31d2ec48"), looks := false }, kinds := [], alts := [], laidByText := true, laidKinds := [.data, .data], laidTests := true, laidLooks := .later }
def HkdfExpandCardSaid : Prop := Claim7.holds Tryd.pinned (.plain (OpenSpec.ofChange hkdfExpandSpec)) hkdfExpandCard

/-- THE TIED CARD OF 'scriniumlaw04.HkdfUse'. -/
def hkdfUseCard : Claim7 := { stood := { row := hkdfUseRow, standIns := [], harness := (true, "2b7a7527f429d59a3a9ade3c061be14f60cd6fcd09be7d6e11fb1b5d31d2ec48"), looks := false }, kinds := [], alts := [], laidByText := true, laidKinds := [.data, .data], laidTests := true, laidLooks := .later }
def HkdfUseCardSaid : Prop := Claim7.holds Tryd.pinned (.plain (OpenSpec.ofChange hkdfUseSpec)) hkdfUseCard

/-- THE SECOND FORM's CARD OF 'scriniumlaw04.HkdfExtract'. -/
def hkdfExtractUptoCard : Claim7 := { stood := { row := hkdfExtractUptoRow, standIns := [], harness := (true, "2b7a7527f429d59a3a9ade3c061be14f60cd6fcd09be7d6e11fb1b5d31d2ec48"), looks := false }, kinds := [], alts := [], laidByText := true, laidKinds := [.data, .data], laidTests := true, laidLooks := .later }
def HkdfExtractUptoCardSaid : Prop := Claim7.holds Tryd.pinned (.plain (OpenSpec.upto hkdfExtractSpec)) hkdfExtractUptoCard

/-- THE SECOND FORM's CARD OF 'scriniumlaw04.HkdfExpand'. -/
def hkdfExpandUptoCard : Claim7 := { stood := { row := hkdfExpandUptoRow, standIns := [], harness := (true, "2b7a7527f429d59a3a9ade3c061be14f60cd6fcd09be7d6e11fb1b5d31d2ec48"), looks := false }, kinds := [], alts := [], laidByText := true, laidKinds := [.data, .data], laidTests := true, laidLooks := .later }
def HkdfExpandUptoCardSaid : Prop := Claim7.holds Tryd.pinned (.plain (OpenSpec.upto hkdfExpandSpec)) hkdfExpandUptoCard

/-- THE SECOND FORM's CARD OF 'scriniumlaw04.HkdfUse'. -/
def hkdfUseUptoCard : Claim7 := { stood := { row := hkdfUseUptoRow, standIns := [], harness := (true, "2b7a7527f429d59a3a9ade3c061be14f60cd6fcd09be7d6e11fb1b5d31d2ec48"), looks := false }, kinds := [], alts := [], laidByText := true, laidKinds := [.data, .data], laidTests := true, laidLooks := .later }
def HkdfUseUptoCardSaid : Prop := Claim7.holds Tryd.pinned (.plain (OpenSpec.upto hkdfUseSpec)) hkdfUseUptoCard
end Rows
end Go.Proofs.YtckffideobjlfaaDoor
