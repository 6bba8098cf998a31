/-
  DERIVED. GIVEN WITH THE SEED: THE CARDS: each row of YtfemboojdablhaaGreatDoorRows.lean that lists a variable, with what it lists TIED to the program's text (the seventh form; the later family's looks); each row that meets fmt, with fmt's text TOLD by the authors' own Lean function (tested against real Go, not proved from fmt's source: count such statements apart). THE CARD IS WHAT COUNTS. Prove the row's statement (the work); the ties are given (YtfemboojdablhaaGreatDoorTie.lean); close each card by the builder's one call (the guide's Derived/Test/ToyasCard.lean, 'card_holds'). Laid BY PROGRAM, IN A SANDBOX (cutbox-door.mjs). By AI agents, Wed Nov 11 2026. No macro, syntax, notation, axiom, sorry.
-/
import Derived.Test.YtfemboojdablhaaGreatDoorRows
import GoSem.ClaimSeven
namespace Go.Proofs.YtfemboojdablhaaGreatDoor
namespace Rows

/-- THE TIED CARD OF 'sievelaw.WalkOnce'. -/
def walkOnceCard : Claim7 := { stood := { row := walkOnceRow, standIns := [], harness := (true, "f465e37e81f5ff3fdad6f7d2d2446af04f546ed25db402d3fdf22a7fd99c6151"), looks := true }, kinds := [], alts := [], laidByText := true, laidKinds := [.data, .data, .data, .data, .sentinel, .sentinel, .sentinel, .sentinel, .sentinel, .sentinel, .sentinel, .sentinel, .pinned], laidTests := true, laidLooks := .later }
def WalkOnceCardSaid : Prop := Claim7.holds Tryz.pinned (.plain (OpenSpec.ofChange walkOnceSpec)) walkOnceCard

/-- THE TIED CARD OF 'sievelaw.WalkParts'. -/
def walkPartsCard : Claim7 := { stood := { row := walkPartsRow, standIns := [], harness := (true, "f465e37e81f5ff3fdad6f7d2d2446af04f546ed25db402d3fdf22a7fd99c6151"), looks := true }, kinds := [], alts := [], laidByText := true, laidKinds := [.data, .data, .data, .data, .sentinel, .sentinel, .sentinel, .sentinel, .sentinel, .sentinel, .sentinel, .sentinel, .pinned], laidTests := true, laidLooks := .later }
def WalkPartsCardSaid : Prop := Claim7.holds Tryz.pinned (.plain (OpenSpec.ofChange walkPartsSpec)) walkPartsCard

/-- THE TIED CARD OF 'sievelaw.WalkDepths'. -/
def walkDepthsCard : Claim7 := { stood := { row := walkDepthsRow, standIns := [], harness := (true, "f465e37e81f5ff3fdad6f7d2d2446af04f546ed25db402d3fdf22a7fd99c6151"), looks := true }, kinds := [], alts := [], laidByText := true, laidKinds := [.data, .data, .data, .data, .sentinel, .sentinel, .sentinel, .sentinel, .sentinel, .sentinel, .sentinel, .sentinel, .pinned], laidTests := true, laidLooks := .later }
def WalkDepthsCardSaid : Prop := Claim7.holds Tryz.pinned (.plain (OpenSpec.ofChange walkDepthsSpec)) walkDepthsCard

/-- THE TIED CARD OF 'sievelaw.WalkIgnored'. -/
def walkIgnoredCard : Claim7 := { stood := { row := walkIgnoredRow, standIns := [], harness := (true, "f465e37e81f5ff3fdad6f7d2d2446af04f546ed25db402d3fdf22a7fd99c6151"), looks := true }, kinds := [], alts := [], laidByText := true, laidKinds := [.data, .data, .data, .data, .sentinel, .sentinel, .sentinel, .sentinel, .sentinel, .sentinel, .sentinel, .sentinel, .pinned], laidTests := true, laidLooks := .later }
def WalkIgnoredCardSaid : Prop := Claim7.holds Tryz.pinned (.plain (OpenSpec.ofChange walkIgnoredSpec)) walkIgnoredCard

/-- THE SECOND FORM's CARD OF 'sievelaw.WalkOnce'. -/
def walkOnceUptoCard : Claim7 := { stood := { row := walkOnceUptoRow, standIns := [], harness := (true, "f465e37e81f5ff3fdad6f7d2d2446af04f546ed25db402d3fdf22a7fd99c6151"), looks := true }, kinds := [], alts := [], laidByText := true, laidKinds := [.data, .data, .data, .data, .sentinel, .sentinel, .sentinel, .sentinel, .sentinel, .sentinel, .sentinel, .sentinel, .pinned], laidTests := true, laidLooks := .later }
def WalkOnceUptoCardSaid : Prop := Claim7.holds Tryz.pinned (.plain (OpenSpec.upto walkOnceSpec)) walkOnceUptoCard

/-- THE SECOND FORM's CARD OF 'sievelaw.WalkParts'. -/
def walkPartsUptoCard : Claim7 := { stood := { row := walkPartsUptoRow, standIns := [], harness := (true, "f465e37e81f5ff3fdad6f7d2d2446af04f546ed25db402d3fdf22a7fd99c6151"), looks := true }, kinds := [], alts := [], laidByText := true, laidKinds := [.data, .data, .data, .data, .sentinel, .sentinel, .sentinel, .sentinel, .sentinel, .sentinel, .sentinel, .sentinel, .pinned], laidTests := true, laidLooks := .later }
def WalkPartsUptoCardSaid : Prop := Claim7.holds Tryz.pinned (.plain (OpenSpec.upto walkPartsSpec)) walkPartsUptoCard

/-- THE SECOND FORM's CARD OF 'sievelaw.WalkDepths'. -/
def walkDepthsUptoCard : Claim7 := { stood := { row := walkDepthsUptoRow, standIns := [], harness := (true, "f465e37e81f5ff3fdad6f7d2d2446af04f546ed25db402d3fdf22a7fd99c6151"), looks := true }, kinds := [], alts := [], laidByText := true, laidKinds := [.data, .data, .data, .data, .sentinel, .sentinel, .sentinel, .sentinel, .sentinel, .sentinel, .sentinel, .sentinel, .pinned], laidTests := true, laidLooks := .later }
def WalkDepthsUptoCardSaid : Prop := Claim7.holds Tryz.pinned (.plain (OpenSpec.upto walkDepthsSpec)) walkDepthsUptoCard

/-- THE SECOND FORM's CARD OF 'sievelaw.WalkIgnored'. -/
def walkIgnoredUptoCard : Claim7 := { stood := { row := walkIgnoredUptoRow, standIns := [], harness := (true, "f465e37e81f5ff3fdad6f7d2d2446af04f546ed25db402d3fdf22a7fd99c6151"), looks := true }, kinds := [], alts := [], laidByText := true, laidKinds := [.data, .data, .data, .data, .sentinel, .sentinel, .sentinel, .sentinel, .sentinel, .sentinel, .sentinel, .sentinel, .pinned], laidTests := true, laidLooks := .later }
def WalkIgnoredUptoCardSaid : Prop := Claim7.holds Tryz.pinned (.plain (OpenSpec.upto walkIgnoredSpec)) walkIgnoredUptoCard
end Rows
end Go.Proofs.YtfemboojdablhaaGreatDoor
