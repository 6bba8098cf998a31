/- The listed variables, laid: a world that holds them. -/
import Derived.Test.YtfemboojdablhaaGreatDoorCards
import Derived.Test.YtfemboojdablhaaGreatDoorTie
import Derived.Stop.LaidTwo
import Derived.LaidSub
import Derived.Shelf.Vars
import Derived.WalkKit
import Derived.ProofKit
import Derived.OpenShut
import Derived.ShutString
import Derived.ChangeOld
import Derived.Below
import Derived.Carry
import Derived.Deep.DeepHandedRow
import Derived.Deep.DeepWitnessRowRef
import Derived.Lib.LaidTab
import Derived.SizedLaws
namespace Go.Proofs.YtfemboojdablhaaGreatDoor.wc
open Go.ChangeShapes Go.WideShapes Go.ChangeAt Go.RowKit

theorem own : ownKnob Tryz.prog.godebug = none := by kernel_rfl
def wMany : List UInt8 := [97, 32, 110, 111, 100, 101, 32, 109, 111, 114, 101, 32, 116, 104, 97, 110, 32, 109, 97, 121, 32, 98, 101, 32, 103, 111, 110, 101, 32, 116, 111]
def wQuit : List UInt8 := [110, 111, 116, 104, 105, 110, 103, 32, 109, 111, 114, 101, 32, 105, 115, 32, 119, 97, 110, 116, 101, 100]
def tNone : List UInt8 := [97, 32, 110, 111, 100, 101, 32, 116, 104, 97, 116, 32, 105, 115, 32, 110, 111, 116, 32, 116, 104, 101, 114, 101]
def tKind : List UInt8 := [97, 32, 110, 111, 100, 101, 32, 116, 104, 97, 116, 32, 105, 115, 32, 110, 111, 32, 100, 105, 114, 101, 99, 116, 111, 114, 121]
def tText : List UInt8 := [97, 32, 108, 105, 110, 101, 32, 116, 104, 97, 116, 32, 104, 97, 115, 32, 110, 111, 116, 32, 116, 104, 101, 32, 102, 111, 114, 109]
def tMany : List UInt8 := [97, 32, 108, 105, 110, 101, 32, 109, 111, 114, 101, 32, 116, 104, 97, 110, 32, 116, 104, 101, 114, 101, 32, 109, 97, 121, 32, 98, 101]
def tTwice : List UInt8 := [97, 32, 110, 111, 100, 101, 32, 116, 104, 97, 116, 32, 105, 115, 32, 116, 104, 101, 114, 101, 32, 97, 108, 114, 101, 97, 100, 121]
def tLoop : List UInt8 := [97, 32, 108, 105, 110, 107, 32, 109, 111, 114, 101, 32, 116, 104, 97, 110, 32, 97, 114, 101, 32, 103, 111, 110, 101, 32, 116, 104, 114, 111, 117, 103, 104]
/-- The cells of a table. -/
def flat1 : DataW Unit → List Value
  | .lit (.int k n) => [.int k n]
  | _ => []
def flat2 : DataW Unit → List Value
  | .agg ds => ds.flatMap flat1
  | d => flat1 d
def flat3 : DataW Unit → List Value
  | .agg ds => ds.flatMap flat2
  | d => flat1 d
def fill (cs : Array Value) : Obj → Obj
  | .cells _ t frozen => .cells cs t frozen
  | o => o
noncomputable def laidWorld (os : Os) : World :=
  { World.holding Tryz.prog os ⟨#[], #[], []⟩ with heap := ((((((World.holding Tryz.prog os ⟨#[], #[], []⟩).heap.modify 8 (fill (flat3 Rows.laid_internal_strconv_uint64pow10).toArray)).modify 10 (fill (flat3 Rows.laid_math_bits_deBruijn32tab).toArray)).modify 11 (fill (flat3 Rows.laid_math_bits_deBruijn64tab).toArray)).modify 12 (fill (flat3 Rows.laid_unicode_utf8_first).toArray)).modify 13 (fill (flat3 Rows.laid_unicode_utf8_acceptRanges).toArray)) }
def laySent (h : Array Obj) (g : Nat) (t : List UInt8) : Array Obj := (h.modify g (fill #[.iface 398 (.pointer (some ⟨h.size, 0, none⟩))])).push (.cells #[.string ⟨t.toArray⟩] 420 (0, 0))
noncomputable def sentWorld (os : Os) : World :=
  { laidWorld os with heap := laySent (laySent (laySent (laySent (laySent (laySent (laySent (laySent (laidWorld os).heap 0 wMany) 1 wQuit) 2 tNone) 3 tKind) 4 tText) 5 tMany) 6 tTwice) 7 tLoop }
theorem laid_met (os : Os) : laidMetH Tryz.prog Rows.walkOnceRow.laid ((sentWorld os).forCall (fun _ _ => 0) ⟨#[], #[.string ByteArray.empty], []⟩).memory := by
  rw [MakeChecks.laidMetH_plain _ _ _ (by kernel_rfl)]
  exact laidMet_of_run' 8 (by kernel_rfl) (by kernel_rfl)
end Go.Proofs.YtfemboojdablhaaGreatDoor.wc
