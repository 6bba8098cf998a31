/- A line read: all cases. -/
import Derived.Test.YtconbmfbokpklaaGreatDoorReadA
import Derived.Test.YtconbmfbokpklaaGreatDoorReadB
import Derived.Test.YtconbmfbokpklaaGreatDoorReadC
import Derived.Test.YtconbmfbokpklaaGreatDoorReadD
namespace Go.Proofs.YtconbmfbokpklaaGreatDoor
open Go.RowKit Go.Maps

theorem read_any {C : Nat} {A : Ads} (c bm br : Nat) (nv : Value) (line : ByteArray) (w : World) (hb : BoxB w c nv bm br) (hrd : w.ownsMap Tryz.prog 9 fnElem br 5 rdD) (hs : Sent C A w) (hC : C ≤ w.heap.size) (hline : line.size ≤ 20000) : Calls Tryz.prog 37 #[.pointer (some ⟨c, 0, none⟩), .string line] w (RLPost A (lineD line) line.size w) := by
  by_cases h : ∃ key way ys f, cutS 9 line = key :: way :: ys ∧ kfn key.data.toList = some f
  · obtain ⟨key, way, ys, f, e1, ek⟩ := h
    cases o1 : (cutS 47 way).all nameOk <;> cases o2 : (fieldsD (headI key) ys).isSome
    · exact readD c bm br nv line w hb hrd hs hC hline key way ys f e1 ek o1 o2
    · exact readC c bm br nv line w hb hrd hs hC hline key way ys f e1 ek o1 o2
    · exact readB c bm br nv line w hb hrd hs hC hline key way ys f e1 ek o1 o2
    · exact readA c bm br nv line w hb hrd hs hC hline key way ys f e1 ek o1 o2
  · exact read_short c bm br nv line w hb hrd hs hC hline (fun key way ys f e1 ek => h ⟨key, way, ys, f, e1, ek⟩)
end Go.Proofs.YtconbmfbokpklaaGreatDoor
