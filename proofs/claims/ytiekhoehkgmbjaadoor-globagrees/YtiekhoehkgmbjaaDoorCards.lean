/-
  DERIVED. GIVEN WITH THE SEED: THE CARDS: each row of YtiekhoehkgmbjaaDoorRows.lean that lists a variable, with what it lists TIED to the program's text (the seventh form; the later family's looks); each row that meets fmt, with fmt's text TOLD by the authors' own Lean function (tested against real Go, not proved from fmt's source: count such statements apart). THE CARD IS WHAT COUNTS. Prove the row's statement (the work); the ties are given (YtiekhoehkgmbjaaDoorTie.lean); close each card by the builder's one call (the guide's Derived/Test/ToyasCard.lean, 'card_holds'). Laid BY PROGRAM, IN A SANDBOX (cutbox-door.mjs). By AI agents, Wed Nov 11 2026. No macro, syntax, notation, axiom, sorry.
-/
import Derived.Test.YtiekhoehkgmbjaaDoorRows
import GoSem.ClaimSeven
namespace Go.Proofs.YtiekhoehkgmbjaaDoor
namespace Rows

/-- THE TIED CARD OF 'sievelaw.AutoMatches'. -/
def autoMatchesCard : Claim7 := { stood := { row := autoMatchesRow, standIns := [], harness := (true, "878226e8750e8086f98117c61a4a57b4b385bc7837d629e03e229de5c67c5611"), looks := false }, kinds := [], alts := [], laidByText := true, laidKinds := [.data], laidTests := true, laidLooks := .later }
def AutoMatchesCardSaid : Prop := Claim7.holds Tryd.pinned (.plain (OpenSpec.ofChange autoMatchesSpec)) autoMatchesCard

/-- THE TIED CARD OF 'sievelaw.AutoLaws'. -/
def autoLawsCard : Claim7 := { stood := { row := autoLawsRow, standIns := [], harness := (true, "878226e8750e8086f98117c61a4a57b4b385bc7837d629e03e229de5c67c5611"), looks := false }, kinds := [], alts := [], laidByText := true, laidKinds := [.data], laidTests := true, laidLooks := .later }
def AutoLawsCardSaid : Prop := Claim7.holds Tryd.pinned (.plain (OpenSpec.ofChange autoLawsSpec)) autoLawsCard

/-- THE TIED CARD OF 'sievelaw.GlobMatches'. -/
def globMatchesCard : Claim7 := { stood := { row := globMatchesRow, standIns := [], harness := (true, "878226e8750e8086f98117c61a4a57b4b385bc7837d629e03e229de5c67c5611"), looks := false }, kinds := [], alts := [], laidByText := true, laidKinds := [.data, .data, .pinned], laidTests := true, laidLooks := .later }
def GlobMatchesCardSaid : Prop := Claim7.holds Tryd.pinned (.plain (OpenSpec.ofChange globMatchesSpec)) globMatchesCard

/-- THE TIED CARD OF 'sievelaw.GlobAgrees'. -/
def globAgreesCard : Claim7 := { stood := { row := globAgreesRow, standIns := [], harness := (true, "878226e8750e8086f98117c61a4a57b4b385bc7837d629e03e229de5c67c5611"), looks := false }, kinds := [], alts := [], laidByText := true, laidKinds := [.data, .data, .pinned], laidTests := true, laidLooks := .later }
def GlobAgreesCardSaid : Prop := Claim7.holds Tryd.pinned (.plain (OpenSpec.ofChange globAgreesSpec)) globAgreesCard

/-- THE TIED CARD OF 'sievelaw.GlobPlain'. -/
def globPlainCard : Claim7 := { stood := { row := globPlainRow, standIns := [], harness := (true, "878226e8750e8086f98117c61a4a57b4b385bc7837d629e03e229de5c67c5611"), looks := false }, kinds := [], alts := [], laidByText := true, laidKinds := [.data, .data, .pinned], laidTests := true, laidLooks := .later }
def GlobPlainCardSaid : Prop := Claim7.holds Tryd.pinned (.plain (OpenSpec.ofChange globPlainSpec)) globPlainCard

/-- THE TIED CARD OF 'sievelaw.GlobHides'. -/
def globHidesCard : Claim7 := { stood := { row := globHidesRow, standIns := [], harness := (true, "878226e8750e8086f98117c61a4a57b4b385bc7837d629e03e229de5c67c5611"), looks := false }, kinds := [], alts := [], laidByText := true, laidKinds := [.data, .data, .pinned], laidTests := true, laidLooks := .later }
def GlobHidesCardSaid : Prop := Claim7.holds Tryd.pinned (.plain (OpenSpec.ofChange globHidesSpec)) globHidesCard

/-- THE SECOND FORM's CARD OF 'sievelaw.AutoMatches'. -/
def autoMatchesUptoCard : Claim7 := { stood := { row := autoMatchesUptoRow, standIns := [], harness := (true, "878226e8750e8086f98117c61a4a57b4b385bc7837d629e03e229de5c67c5611"), looks := false }, kinds := [], alts := [], laidByText := true, laidKinds := [.data], laidTests := true, laidLooks := .later }
def AutoMatchesUptoCardSaid : Prop := Claim7.holds Tryd.pinned (.plain (OpenSpec.upto autoMatchesSpec)) autoMatchesUptoCard

/-- THE SECOND FORM's CARD OF 'sievelaw.AutoLaws'. -/
def autoLawsUptoCard : Claim7 := { stood := { row := autoLawsUptoRow, standIns := [], harness := (true, "878226e8750e8086f98117c61a4a57b4b385bc7837d629e03e229de5c67c5611"), looks := false }, kinds := [], alts := [], laidByText := true, laidKinds := [.data], laidTests := true, laidLooks := .later }
def AutoLawsUptoCardSaid : Prop := Claim7.holds Tryd.pinned (.plain (OpenSpec.upto autoLawsSpec)) autoLawsUptoCard

/-- THE SECOND FORM's CARD OF 'sievelaw.GlobMatches'. -/
def globMatchesUptoCard : Claim7 := { stood := { row := globMatchesUptoRow, standIns := [], harness := (true, "878226e8750e8086f98117c61a4a57b4b385bc7837d629e03e229de5c67c5611"), looks := false }, kinds := [], alts := [], laidByText := true, laidKinds := [.data, .data, .pinned], laidTests := true, laidLooks := .later }
def GlobMatchesUptoCardSaid : Prop := Claim7.holds Tryd.pinned (.plain (OpenSpec.upto globMatchesSpec)) globMatchesUptoCard

/-- THE SECOND FORM's CARD OF 'sievelaw.GlobAgrees'. -/
def globAgreesUptoCard : Claim7 := { stood := { row := globAgreesUptoRow, standIns := [], harness := (true, "878226e8750e8086f98117c61a4a57b4b385bc7837d629e03e229de5c67c5611"), looks := false }, kinds := [], alts := [], laidByText := true, laidKinds := [.data, .data, .pinned], laidTests := true, laidLooks := .later }
def GlobAgreesUptoCardSaid : Prop := Claim7.holds Tryd.pinned (.plain (OpenSpec.upto globAgreesSpec)) globAgreesUptoCard

/-- THE SECOND FORM's CARD OF 'sievelaw.GlobPlain'. -/
def globPlainUptoCard : Claim7 := { stood := { row := globPlainUptoRow, standIns := [], harness := (true, "878226e8750e8086f98117c61a4a57b4b385bc7837d629e03e229de5c67c5611"), looks := false }, kinds := [], alts := [], laidByText := true, laidKinds := [.data, .data, .pinned], laidTests := true, laidLooks := .later }
def GlobPlainUptoCardSaid : Prop := Claim7.holds Tryd.pinned (.plain (OpenSpec.upto globPlainSpec)) globPlainUptoCard

/-- THE SECOND FORM's CARD OF 'sievelaw.GlobHides'. -/
def globHidesUptoCard : Claim7 := { stood := { row := globHidesUptoRow, standIns := [], harness := (true, "878226e8750e8086f98117c61a4a57b4b385bc7837d629e03e229de5c67c5611"), looks := false }, kinds := [], alts := [], laidByText := true, laidKinds := [.data, .data, .pinned], laidTests := true, laidLooks := .later }
def GlobHidesUptoCardSaid : Prop := Claim7.holds Tryd.pinned (.plain (OpenSpec.upto globHidesSpec)) globHidesUptoCard
end Rows
end Go.Proofs.YtiekhoehkgmbjaaDoor
