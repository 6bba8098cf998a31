/- What the laid variable holds; a world in which it is laid. -/
import Derived.Test.YtfdnhkhcjgenmaaDoorCards
import Derived.Test.YtfdnhkhcjgenmaaDoorTie
import Derived.Test.YtfdnhkhcjgenmaaDoorXRead
import Derived.WalkKit
import Derived.ProofKit
import Derived.OpenShut
import Derived.ShutString
import Derived.ChangeOld
import Derived.Below
import Derived.Carry
import Derived.Deep.DeepHandedRow
import Derived.Lib.LaidTab
namespace Go.Proofs.YtfdnhkhcjgenmaaDoor
theorem own : ownKnob Tryd.prog.godebug = none := by kernel_rfl
theorem laidOutX : laidOutB Tryd.prog = true := by kernel_rfl
def fill (cs : Array Value) : Obj → Obj
  | .cells _ t frozen => .cells cs t frozen
  | o => o
noncomputable def laidWorld (os : Os) : World :=
  { World.holding Tryd.prog os ⟨#[], #[], []⟩ with heap := (World.holding Tryd.prog os ⟨#[], #[], []⟩).heap.modify 0 (fill (Lib.deBruijn64tab.map fun (n : Nat) => Value.int .u8 (n : Int)).toArray) }
theorem tab_of {L : List (String × DataW Unit)} {W : World} (h : laidMet Tryd.prog L W) (hL : L = [("math/bits.deBruijn64tab", Lib.tabData .u8 (Lib.deBruijn64tab.map fun (n : Nat) => (n : Int)))]) : TabW W := by
  subst hL
  have ht := Lib.tabIs_of_head (P := Tryd.prog) (g := 0) (t := 148) (by kernel_rfl) (by kernel_rfl) (show Tryd.prog.underlying 148 = some (.array 64 5) by kernel_rfl) (show Tryd.prog.underlying 5 = some (.int .u8) by kernel_rfl) (by kernel_rfl) (by kernel_rfl) h
  intro j hj
  have := ht.cell (show Tryd.prog.globalNamed "math/bits.deBruijn64tab" = some 0 by kernel_rfl) j (by rw [List.length_map]; exact hj)
  rw [this]
  have hj' : j < Lib.deBruijn64tab.length := hj
  simp [List.getD, hj']
end Go.Proofs.YtfdnhkhcjgenmaaDoor
