/-
  DERIVED. GIVEN WITH THE SEED: THE CARDS: each row of YtmhigipljplgdaaDoorRows.lean that lists a variable, with what it lists TIED to the program's text (the seventh form; the later family's looks); each row that meets fmt, with fmt's text TOLD by the authors' own Lean function (tested against real Go, not proved from fmt's source: count such statements apart). THE CARD IS WHAT COUNTS. Prove the row's statement (the work); the ties are given (YtmhigipljplgdaaDoorTie.lean); close each card by the builder's one call (the guide's Derived/Test/ToyasCard.lean, 'card_holds'). Laid BY PROGRAM, IN A SANDBOX (cutbox-door.mjs). By AI agents, Wed Nov 11 2026. No macro, syntax, notation, axiom, sorry.
-/
import Derived.Test.YtmhigipljplgdaaDoorRows
import GoSem.ClaimSeven
namespace Go.Proofs.YtmhigipljplgdaaDoor
namespace Rows

/-- THE TIED CARD OF 'scriniumlaw12.DrawsActs'. -/
def drawsActsCard : Claim7 := { stood := { row := drawsActsRow, standIns := [], harness := (true, "3c2c9dfec923cee550961700d543184953a3f654663e2e983ec972f454150760"), looks := false }, kinds := [], alts := [], laidByText := true, laidKinds := [.data, .data], laidTests := true, laidLooks := .later }
def DrawsActsCardSaid : Prop := Claim7.holds Tryd.pinned (.plain (OpenSpec.ofChange drawsActsSpec)) drawsActsCard

/-- THE TIED CARD OF 'scriniumlaw12.DrawsNil'. -/
def drawsNilCard : Claim7 := { stood := { row := drawsNilRow, standIns := [], harness := (true, "3c2c9dfec923cee550961700d543184953a3f654663e2e983ec972f454150760"), looks := false }, kinds := [], alts := [], laidByText := true, laidKinds := [.data, .data], laidTests := true, laidLooks := .later }
def DrawsNilCardSaid : Prop := Claim7.holds Tryd.pinned (.plain (OpenSpec.ofChange drawsNilSpec)) drawsNilCard

/-- THE SECOND FORM's CARD OF 'scriniumlaw12.DrawsActs'. -/
def drawsActsUptoCard : Claim7 := { stood := { row := drawsActsUptoRow, standIns := [], harness := (true, "3c2c9dfec923cee550961700d543184953a3f654663e2e983ec972f454150760"), looks := false }, kinds := [], alts := [], laidByText := true, laidKinds := [.data, .data], laidTests := true, laidLooks := .later }
def DrawsActsUptoCardSaid : Prop := Claim7.holds Tryd.pinned (.plain (OpenSpec.upto drawsActsSpec)) drawsActsUptoCard

/-- THE SECOND FORM's CARD OF 'scriniumlaw12.DrawsNil'. -/
def drawsNilUptoCard : Claim7 := { stood := { row := drawsNilUptoRow, standIns := [], harness := (true, "3c2c9dfec923cee550961700d543184953a3f654663e2e983ec972f454150760"), looks := false }, kinds := [], alts := [], laidByText := true, laidKinds := [.data, .data], laidTests := true, laidLooks := .later }
def DrawsNilUptoCardSaid : Prop := Claim7.holds Tryd.pinned (.plain (OpenSpec.upto drawsNilSpec)) drawsNilUptoCard
end Rows
end Go.Proofs.YtmhigipljplgdaaDoor
