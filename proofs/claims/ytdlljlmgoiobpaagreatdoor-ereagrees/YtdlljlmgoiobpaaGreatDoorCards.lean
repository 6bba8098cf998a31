/-
  DERIVED. GIVEN WITH THE SEED: THE CARDS: each row of YtdlljlmgoiobpaaGreatDoorRows.lean that lists a variable, with what it lists TIED to the program's text (the seventh form; the later family's looks); each row that meets fmt, with fmt's text TOLD by the authors' own Lean function (tested against real Go, not proved from fmt's source: count such statements apart). THE CARD IS WHAT COUNTS. Prove the row's statement (the work); the ties are given (YtdlljlmgoiobpaaGreatDoorTie.lean); close each card by the builder's one call (the guide's Derived/Test/ToyasCard.lean, 'card_holds'). Laid BY PROGRAM, IN A SANDBOX (cutbox-door.mjs). By AI agents, Wed Nov 11 2026. No macro, syntax, notation, axiom, sorry.
-/
import Derived.Test.YtdlljlmgoiobpaaGreatDoorRows
import GoSem.ClaimSeven
namespace Go.Proofs.YtdlljlmgoiobpaaGreatDoor
namespace Rows

/-- THE TIED CARD OF 'sievelaw.EreAgrees'. -/
def ereAgreesCard : Claim7 := { stood := { row := ereAgreesRow, standIns := [], harness := (true, "0e5cc210c0f1792fb3adbf5c288b749a37c4a33eb797c097f0512f1c62d57a17"), looks := true }, kinds := [], alts := [], laidByText := true, laidKinds := [.data], laidTests := true, laidLooks := .later }
def EreAgreesCardSaid : Prop := Claim7.holds Tryz.pinned (.plain (OpenSpec.ofChange ereAgreesSpec)) ereAgreesCard

/-- THE TIED CARD OF 'sievelaw.EreEither'. -/
def ereEitherCard : Claim7 := { stood := { row := ereEitherRow, standIns := [], harness := (true, "0e5cc210c0f1792fb3adbf5c288b749a37c4a33eb797c097f0512f1c62d57a17"), looks := true }, kinds := [], alts := [], laidByText := true, laidKinds := [.data], laidTests := true, laidLooks := .later }
def EreEitherCardSaid : Prop := Claim7.holds Tryz.pinned (.plain (OpenSpec.ofChange ereEitherSpec)) ereEitherCard

/-- THE SECOND FORM's CARD OF 'sievelaw.EreAgrees'. -/
def ereAgreesUptoCard : Claim7 := { stood := { row := ereAgreesUptoRow, standIns := [], harness := (true, "0e5cc210c0f1792fb3adbf5c288b749a37c4a33eb797c097f0512f1c62d57a17"), looks := true }, kinds := [], alts := [], laidByText := true, laidKinds := [.data], laidTests := true, laidLooks := .later }
def EreAgreesUptoCardSaid : Prop := Claim7.holds Tryz.pinned (.plain (OpenSpec.upto ereAgreesSpec)) ereAgreesUptoCard

/-- THE SECOND FORM's CARD OF 'sievelaw.EreEither'. -/
def ereEitherUptoCard : Claim7 := { stood := { row := ereEitherUptoRow, standIns := [], harness := (true, "0e5cc210c0f1792fb3adbf5c288b749a37c4a33eb797c097f0512f1c62d57a17"), looks := true }, kinds := [], alts := [], laidByText := true, laidKinds := [.data], laidTests := true, laidLooks := .later }
def EreEitherUptoCardSaid : Prop := Claim7.holds Tryz.pinned (.plain (OpenSpec.upto ereEitherSpec)) ereEitherUptoCard
end Rows
end Go.Proofs.YtdlljlmgoiobpaaGreatDoor
