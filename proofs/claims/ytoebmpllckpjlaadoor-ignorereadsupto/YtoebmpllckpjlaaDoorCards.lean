/-
  DERIVED. GIVEN WITH THE SEED: THE CARDS: each row of YtoebmpllckpjlaaDoorRows.lean that lists a variable, with what it lists TIED to the program's text (the seventh form; the later family's looks); each row that meets fmt, with fmt's text TOLD by the authors' own Lean function (tested against real Go, not proved from fmt's source: count such statements apart). THE CARD IS WHAT COUNTS. Prove the row's statement (the work); the ties are given (YtoebmpllckpjlaaDoorTie.lean); close each card by the builder's one call (the guide's Derived/Test/ToyasCard.lean, 'card_holds'). Laid BY PROGRAM, IN A SANDBOX (cutbox-door.mjs). By AI agents, Wed Nov 11 2026. No macro, syntax, notation, axiom, sorry.
-/
import Derived.Test.YtoebmpllckpjlaaDoorRows
import GoSem.ClaimSeven
namespace Go.Proofs.YtoebmpllckpjlaaDoor
namespace Rows

/-- THE TIED CARD OF 'sievelaw.IgnoreReads'. -/
def ignoreReadsCard : Claim7 := { stood := { row := ignoreReadsRow, standIns := [], harness := (true, "5eda62f46352f602d4c0995563d38c23506c95d4478f4c13d815d2f83fb69c98"), looks := false }, kinds := [], alts := [], laidByText := true, laidKinds := [.data, .pinned], laidTests := true, laidLooks := .later }
def IgnoreReadsCardSaid : Prop := Claim7.holds Tryd.pinned (.plain (OpenSpec.ofChange ignoreReadsSpec)) ignoreReadsCard

/-- THE TIED CARD OF 'sievelaw.IgnoreLines'. -/
def ignoreLinesCard : Claim7 := { stood := { row := ignoreLinesRow, standIns := [], harness := (true, "5eda62f46352f602d4c0995563d38c23506c95d4478f4c13d815d2f83fb69c98"), looks := false }, kinds := [], alts := [], laidByText := true, laidKinds := [.data, .pinned], laidTests := true, laidLooks := .later }
def IgnoreLinesCardSaid : Prop := Claim7.holds Tryd.pinned (.plain (OpenSpec.ofChange ignoreLinesSpec)) ignoreLinesCard

/-- THE SECOND FORM's CARD OF 'sievelaw.IgnoreReads'. -/
def ignoreReadsUptoCard : Claim7 := { stood := { row := ignoreReadsUptoRow, standIns := [], harness := (true, "5eda62f46352f602d4c0995563d38c23506c95d4478f4c13d815d2f83fb69c98"), looks := false }, kinds := [], alts := [], laidByText := true, laidKinds := [.data, .pinned], laidTests := true, laidLooks := .later }
def IgnoreReadsUptoCardSaid : Prop := Claim7.holds Tryd.pinned (.plain (OpenSpec.upto ignoreReadsSpec)) ignoreReadsUptoCard

/-- THE SECOND FORM's CARD OF 'sievelaw.IgnoreLines'. -/
def ignoreLinesUptoCard : Claim7 := { stood := { row := ignoreLinesUptoRow, standIns := [], harness := (true, "5eda62f46352f602d4c0995563d38c23506c95d4478f4c13d815d2f83fb69c98"), looks := false }, kinds := [], alts := [], laidByText := true, laidKinds := [.data, .pinned], laidTests := true, laidLooks := .later }
def IgnoreLinesUptoCardSaid : Prop := Claim7.holds Tryd.pinned (.plain (OpenSpec.upto ignoreLinesSpec)) ignoreLinesUptoCard
end Rows
end Go.Proofs.YtoebmpllckpjlaaDoor
