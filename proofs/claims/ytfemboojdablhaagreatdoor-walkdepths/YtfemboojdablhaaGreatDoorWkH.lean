/- Walk: where a node is gone to. -/
import Derived.Test.YtfemboojdablhaaGreatDoorWkG
import Derived.Test.YtfemboojdablhaaGreatDoorLawJoins
namespace Go.Proofs.YtfemboojdablhaaGreatDoor.Tre
open Go.RowKit Go.Shelf
variable {L : List NodeD} {c : Cf} {gone nn : Nat} {out : List UInt8} {ab : List Bool} {pv bv tv : Value} {W W' : World}

def selV (mn : Int) (test : Nat → Bool) (v : Vis) : Bool := decide (mn ≤ v.depth) && test v.node
/-- What comes out of visits, as far as it is wanted. -/
def outW (mn : Int) (test : Nat → Bool) (l : List Vis) : List UInt8 := outL (l.filter (selV mn test))
theorem outW_app (mn : Int) (test : Nat → Bool) (a b : List Vis) : outW mn test (a ++ b) = outW mn test a ++ outW mn test b := by
  unfold outW; rw [List.filter_append, outL_app]
theorem outW_one (mn : Int) (test : Nat → Bool) (p : ByteArray) (d : Int) (k : Nat) : outW mn test [⟨p, d, k⟩] = lineB (decide (mn ≤ d) && test k) p := by
  unfold outW lineB
  by_cases h : (decide (mn ≤ d) && test k) = true
  · rw [List.filter_cons_of_pos (by exact h), h]; simp [outL]
  · rw [List.filter_cons_of_neg (by exact h)]
    rw [Bool.not_eq_true] at h
    rw [h]; rfl
theorem lineB_le (b : Bool) (p : ByteArray) : (lineB b p).length ≤ p.size + 1 := by
  unfold lineB
  cases b
  · simp
  · simp
theorem jn_join (a b : ByteArray) : joinS a b = jn a b := rfl

/-- What a walk from somewhere on begins with. -/
structure GoH (L : List NodeD) (c : Cf) (J : (Nat → Prop) → (Nat → Prop) → World → Prop) (s t len lo : Nat) (gone nn : Nat) (out : List UInt8) (ab : List Bool) (pv bv tv : Value) (E : Nat → Prop) (w : World) : Prop where
  st : WSt L c gone out ab pv bv tv nn w
  j : J (DS c bv tv) E w
  ol : out.length + s ≤ 20000 * gone
  nl : nn + t ≤ gone
  bud : gone + len ≤ 1000
  abf : ∀ i, lo ≤ i → i < L.length → ab[i]? = some false
/-- What it ends with. -/
def WkPost (L : List NodeD) (c : Cf) (test : Nat → Bool) (J : (Nat → Prop) → (Nat → Prop) → World → Prop) (l : List Vis) (s t gone : Nat) (out : List UInt8) (ab : List Bool) (bv tv : Value) (E : Nat → Prop) (w : World) (e : Ending) (w' : World) : Prop :=
  e = .returned (.tuple #[]) ∧ ∃ pv' bv' tv' nn' E', WSt L c (gone + l.length) (out ++ outW c.mn test l) ab pv' bv' tv' nn' w' ∧ J (DS c bv' tv') E' w' ∧ TurnE (DS c bv tv) E (DS c bv' tv') E' w w' ∧ (out ++ outW c.mn test l).length + s ≤ 20000 * (gone + l.length) ∧ nn' + t ≤ gone + l.length
/-- What is asked of what is asked. -/
structure Asks (L : List NodeD) (c : Cf) (test : Nat → Bool) (J : (Nat → Prop) → (Nat → Prop) → World → Prop) : Prop where
  wnt : Wnt L c test J
  stab : Stab J
  lt : ∀ D E w, J D E w → ∀ k, E k → k < w.heap.size
  low : ∀ D E w, J D E w → ∀ k, E k → c.B ≤ k
  ms : (1000 : Int) ≤ c.ms
theorem nE_turn {D E D' E' : Nat → Prop} {vb : Nat} (hT : TurnE D E D' E' W W') (hv : vb < W.heap.size) (hD : ¬ D vb) (hE : ¬ E vb) : ¬ E' vb := fun h => by
  rcases hT.new vb (.inr h) with (q | q) | q
  · exact hD q
  · exact hE q
  · omega
theorem nDE {D E : Nat → Prop} {vb : Nat} (hD : ¬ D vb) (hE : ¬ E vb) : ¬ (D vb ∨ E vb) := fun h => h.elim hD hE
/-- The directory flag. -/
theorem isdir_any (k : Int) (w : World) : Calls Tryz.prog 86 #[.int .u8 k] w fun e w' => e = .returned (.bool (k == 100 || k == 120)) ∧ w' = w := by
  by_cases h1 : k = 100
  · subst h1
    go_enter Tryz.func86, Tryz.ntmps86
    go_wp2
    go_ret
    exact ⟨rfl, rfl⟩
  · have e1 : (k == 100) = false := by rw [beq_eq_false_iff_ne]; exact h1
    have HE : Hid ((k == 100 || k == 120) = (k == 120)) := by rw [e1, Bool.false_or]; exact rfl
    go_enter Tryz.func86, Tryz.ntmps86
    go_wp2
    go_ret
    exact ⟨by rw [HE.out]; rfl, rfl⟩
end Go.Proofs.YtfemboojdablhaaGreatDoor.Tre
