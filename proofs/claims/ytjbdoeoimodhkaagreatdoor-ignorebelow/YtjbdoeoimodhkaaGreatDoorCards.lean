/-
  DERIVED. GIVEN WITH THE SEED: THE CARDS: each row of YtjbdoeoimodhkaaGreatDoorRows.lean that lists a variable, with what it lists TIED to the program's text (the seventh form; the later family's looks); each row that meets fmt, with fmt's text TOLD by the authors' own Lean function (tested against real Go, not proved from fmt's source: count such statements apart). THE CARD IS WHAT COUNTS. Prove the row's statement (the work); the ties are given (YtjbdoeoimodhkaaGreatDoorTie.lean); close each card by the builder's one call (the guide's Derived/Test/ToyasCard.lean, 'card_holds'). Laid BY PROGRAM, IN A SANDBOX (cutbox-door.mjs). By AI agents, Wed Nov 11 2026. No macro, syntax, notation, axiom, sorry.
-/
import Derived.Test.YtjbdoeoimodhkaaGreatDoorRows
import GoSem.ClaimSeven
namespace Go.Proofs.YtjbdoeoimodhkaaGreatDoor
namespace Rows

/-- THE TIED CARD OF 'sievelaw.IgnoreBelow'. -/
def ignoreBelowCard : Claim7 := { stood := { row := ignoreBelowRow, standIns := [], harness := (true, "750d98791a6946a98b7b6794afb73f74435425072b931d468728a1d0ca80ec79"), looks := true }, kinds := [], alts := [], laidByText := true, laidKinds := [.data, .data, .sentinel, .sentinel, .sentinel, .sentinel, .sentinel, .sentinel, .pinned], laidTests := true, laidLooks := .later }
def IgnoreBelowCardSaid : Prop := Claim7.holds Tryz.pinned (.plain (OpenSpec.ofChange ignoreBelowSpec)) ignoreBelowCard

/-- THE SECOND FORM's CARD OF 'sievelaw.IgnoreBelow'. -/
def ignoreBelowUptoCard : Claim7 := { stood := { row := ignoreBelowUptoRow, standIns := [], harness := (true, "750d98791a6946a98b7b6794afb73f74435425072b931d468728a1d0ca80ec79"), looks := true }, kinds := [], alts := [], laidByText := true, laidKinds := [.data, .data, .sentinel, .sentinel, .sentinel, .sentinel, .sentinel, .sentinel, .pinned], laidTests := true, laidLooks := .later }
def IgnoreBelowUptoCardSaid : Prop := Claim7.holds Tryz.pinned (.plain (OpenSpec.upto ignoreBelowSpec)) ignoreBelowUptoCard
end Rows
end Go.Proofs.YtjbdoeoimodhkaaGreatDoor
