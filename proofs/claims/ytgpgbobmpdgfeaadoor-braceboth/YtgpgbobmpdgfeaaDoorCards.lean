/-
  DERIVED. GIVEN WITH THE SEED: THE CARDS: each row of YtgpgbobmpdgfeaaDoorRows.lean that lists a variable, with what it lists TIED to the program's text (the seventh form; the later family's looks); each row that meets fmt, with fmt's text TOLD by the authors' own Lean function (tested against real Go, not proved from fmt's source: count such statements apart). THE CARD IS WHAT COUNTS. Prove the row's statement (the work); the ties are given (YtgpgbobmpdgfeaaDoorTie.lean); close each card by the builder's one call (the guide's Derived/Test/ToyasCard.lean, 'card_holds'). Laid BY PROGRAM, IN A SANDBOX (cutbox-door.mjs). By AI agents, Wed Nov 11 2026. No macro, syntax, notation, axiom, sorry.
-/
import Derived.Test.YtgpgbobmpdgfeaaDoorRows
import GoSem.ClaimSeven
namespace Go.Proofs.YtgpgbobmpdgfeaaDoor
namespace Rows

/-- THE TIED CARD OF 'sievelaw.BraceExpands'. -/
def braceExpandsCard : Claim7 := { stood := { row := braceExpandsRow, standIns := [], harness := (true, "c450920995e5f27a9c32494af9b37e6689a7365556b3253b0d9a2291c8f8dd12"), looks := false }, kinds := [], alts := [], laidByText := true, laidKinds := [.data, .data, .data], laidTests := true, laidLooks := .later }
def BraceExpandsCardSaid : Prop := Claim7.holds Tryd.pinned (.plain (OpenSpec.ofChange braceExpandsSpec)) braceExpandsCard

/-- THE TIED CARD OF 'sievelaw.BraceLists'. -/
def braceListsCard : Claim7 := { stood := { row := braceListsRow, standIns := [], harness := (true, "c450920995e5f27a9c32494af9b37e6689a7365556b3253b0d9a2291c8f8dd12"), looks := false }, kinds := [], alts := [], laidByText := true, laidKinds := [.data, .data, .data], laidTests := true, laidLooks := .later }
def BraceListsCardSaid : Prop := Claim7.holds Tryd.pinned (.plain (OpenSpec.ofChange braceListsSpec)) braceListsCard

/-- THE TIED CARD OF 'sievelaw.BraceBoth'. -/
def braceBothCard : Claim7 := { stood := { row := braceBothRow, standIns := [], harness := (true, "c450920995e5f27a9c32494af9b37e6689a7365556b3253b0d9a2291c8f8dd12"), looks := false }, kinds := [], alts := [], laidByText := true, laidKinds := [.data, .data, .data], laidTests := true, laidLooks := .later }
def BraceBothCardSaid : Prop := Claim7.holds Tryd.pinned (.plain (OpenSpec.ofChange braceBothSpec)) braceBothCard

/-- THE SECOND FORM's CARD OF 'sievelaw.BraceExpands'. -/
def braceExpandsUptoCard : Claim7 := { stood := { row := braceExpandsUptoRow, standIns := [], harness := (true, "c450920995e5f27a9c32494af9b37e6689a7365556b3253b0d9a2291c8f8dd12"), looks := false }, kinds := [], alts := [], laidByText := true, laidKinds := [.data, .data, .data], laidTests := true, laidLooks := .later }
def BraceExpandsUptoCardSaid : Prop := Claim7.holds Tryd.pinned (.plain (OpenSpec.upto braceExpandsSpec)) braceExpandsUptoCard

/-- THE SECOND FORM's CARD OF 'sievelaw.BraceLists'. -/
def braceListsUptoCard : Claim7 := { stood := { row := braceListsUptoRow, standIns := [], harness := (true, "c450920995e5f27a9c32494af9b37e6689a7365556b3253b0d9a2291c8f8dd12"), looks := false }, kinds := [], alts := [], laidByText := true, laidKinds := [.data, .data, .data], laidTests := true, laidLooks := .later }
def BraceListsUptoCardSaid : Prop := Claim7.holds Tryd.pinned (.plain (OpenSpec.upto braceListsSpec)) braceListsUptoCard

/-- THE SECOND FORM's CARD OF 'sievelaw.BraceBoth'. -/
def braceBothUptoCard : Claim7 := { stood := { row := braceBothUptoRow, standIns := [], harness := (true, "c450920995e5f27a9c32494af9b37e6689a7365556b3253b0d9a2291c8f8dd12"), looks := false }, kinds := [], alts := [], laidByText := true, laidKinds := [.data, .data, .data], laidTests := true, laidLooks := .later }
def BraceBothUptoCardSaid : Prop := Claim7.holds Tryd.pinned (.plain (OpenSpec.upto braceBothSpec)) braceBothUptoCard
end Rows
end Go.Proofs.YtgpgbobmpdgfeaaDoor
