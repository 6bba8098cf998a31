/- Walk: what is wanted, and what is looked at. -/
import Derived.Test.YtfemboojdablhaaGreatDoorWkF
namespace Go.Proofs.YtfemboojdablhaaGreatDoor.Tre
open Go.RowKit Go.Shelf
variable {L : List NodeD} {c : Cf} {gone nn : Nat} {out : List UInt8} {ab : List Bool} {pv bv tv : Value} {W W' : World}

/-- A path's line, if it is wanted. -/
def lineB (b : Bool) (p : ByteArray) : List UInt8 := if b then p.data.toList ++ [10] else []
/-- What a walk leaves alone: all that is neither its own (D) nor of what is asked (E). -/
abbrev TurnE (D E D' E' : Nat → Prop) (w w' : World) : Prop := TurnC (fun k => D k ∨ E k) (fun k => D' k ∨ E' k) w w'
theorem withE {D D' E : Nat → Prop} {w w' : World} (h : TurnC D D' w w') : TurnE D E D' E w w' := TurnC.wide h
/-- What is asked keeps its own: whatever the walk writes of its own. -/
def Stab (J : (Nat → Prop) → (Nat → Prop) → World → Prop) : Prop := ∀ (D D' E : Nat → Prop) (w w' : World), J D E w → TurnC D D' w w' → J D' E w'
/-- What a call of the wanted function does. -/
def WntP (L : List NodeD) (c : Cf) (t : Bool) (J : (Nat → Prop) → (Nat → Prop) → World → Prop) (gone nn : Nat) (out : List UInt8) (ab : List Bool) (bv tv : Value) (E : Nat → Prop) (p : ByteArray) (w : World) (e : Ending) (w' : World) : Prop :=
  (∃ r, e = .returned r) ∧ ∃ pv' bv' E', WSt L c gone (out ++ lineB t p) ab pv' bv' tv nn w' ∧ J (DS c bv' tv) E' w' ∧ TurnE (DS c bv tv) E (DS c bv' tv) E' w w'
def Wnt (L : List NodeD) (c : Cf) (test : Nat → Bool) (J : (Nat → Prop) → (Nat → Prop) → World → Prop) : Prop :=
  ∀ (vb k : Nat) (p : ByteArray) (d : Int) (n : NodeD) (kv : Value) (gone nn : Nat) (out : List UInt8) (ab : List Bool) (pv bv tv : Value) (E : Nat → Prop) (w : World),
    WSt L c gone out ab pv bv tv nn w → J (DS c bv tv) E w → VisB w vb p d k n kv → ¬ E vb → L[k]? = some n → out.length + p.size + 1 ≤ 1000000000 → 0 < p.size →
    Calls Tryz.prog 69 #[.pointer (some ⟨vb, 0, none⟩), .pointer (some ⟨c.kb, 0, none⟩)] w (WntP L c (test k) J gone nn out ab bv tv E p w)
def LookP (L : List NodeD) (c : Cf) (t : Bool) (J : (Nat → Prop) → (Nat → Prop) → World → Prop) (gone nn : Nat) (out : List UInt8) (ab : List Bool) (bv tv : Value) (E : Nat → Prop) (p : ByteArray) (w : World) (e : Ending) (w' : World) : Prop :=
  e = .returned (.tuple #[]) ∧ ∃ pv' bv' E', WSt L c gone (out ++ lineB t p) ab pv' bv' tv nn w' ∧ J (DS c bv' tv) E' w' ∧ TurnE (DS c bv tv) E (DS c bv' tv) E' w w'

set_option maxRecDepth 100000 in
set_option maxHeartbeats 1000000 in
theorem look_any {test : Nat → Bool} {J : (Nat → Prop) → (Nat → Prop) → World → Prop} (hW : Wnt L c test J) (hJs : Stab J) (vb k : Nat) (p : ByteArray) (d : Int) (n : NodeD) (kv : Value) (E : Nat → Prop) (w : World) (h : WSt L c gone out ab pv bv tv nn w) (hJ : J (DS c bv tv) E w) (hv : VisB w vb p d k n kv) (hE : ¬ E vb) (hn : L[k]? = some n) (hlen : out.length + p.size + 1 ≤ 1000000000) (h0 : 0 < p.size) :
    Calls Tryz.prog 80 #[.pointer (some ⟨c.b, 0, none⟩), .pointer (some ⟨vb, 0, none⟩)] w (LookP L c (decide (c.mn ≤ d) && test k) J gone nn out ab bv tv E p w) := by
  have c0 : w.drew.cell? ⟨vb, 1, none⟩ = some (.int .i64 d) := hv.cell 1
  have c1 : w.drew.cell? ⟨c.b, 3, none⟩ = some (.int .i64 c.mn) := h.blk.cell 3
  have c2 : w.drew.cell? ⟨c.b, 6, none⟩ = some (.func (.func 69) #[] #[.pointer (some ⟨c.kb, 0, none⟩)]) := h.blk.cell 6
  have hT : TurnC (DS c bv tv) (DS c bv tv) w w.drew := TurnC.of_below (Below.refl _ w).drew
  have hs1 := h.below (Below.refl _ w).drew
  have hJ1 := hJs _ _ _ _ _ hJ hT
  have HC := hide (hW vb k p d n kv gone nn out ab pv bv tv E w.drew hs1 hJ1 (hv.turn hT (hv.nD h)) hE hn hlen h0)
  have HX := hide (⟨hs1, hJ1, hT⟩ : _ ∧ _ ∧ _)
  clear h hJ hv hs1 hJ1 hT
  by_cases hd : c.mn ≤ d
  · have hb : decide (c.mn ≤ d) = true := decide_eq_true hd
    have hbs : Hid ((decide (c.mn ≤ d) && test k) = test k) := by rw [hb, Bool.true_and]; exact rfl
    go_enter Tryz.func80, Tryz.ntmps80
    go_wp2
    refine (fun (KEY : (?G : World → Prop) w.drew) => ?main) ?key
    case main =>
      go_region
      all_goals exact KEY
    case key =>
      go_wp2_with fail
      refine HC.out.mono ?_
      rintro e w' ⟨⟨r, rfl⟩, pv', bv', E', h1, h2, h3⟩
      have HY := hide (⟨h1, h2, h3⟩ : _ ∧ _ ∧ _)
      clear h1 h2 h3
      go_wp2
      go_end0
      obtain ⟨h1, h2, h3⟩ := HY.out
      rw [hbs.out]
      exact ⟨rfl, pv', bv', E', h1, h2, (withE HX.out.2.2).trans h3⟩
  · have hb : decide (c.mn ≤ d) = false := decide_eq_false hd
    go_enter Tryz.func80, Tryz.ntmps80
    go_wp2
    refine (fun (KEY : (?G2 : World → Prop) w.drew) => ?main2) ?key2
    case main2 =>
      go_region
      all_goals exact KEY
    case key2 =>
      go_wp2
      go_end0
      rw [hb]
      obtain ⟨h1, h2, h3⟩ := HX.out
      exact ⟨rfl, pv, bv, E, by simpa [lineB] using h1, h2, withE h3⟩
end Go.Proofs.YtfemboojdablhaaGreatDoor.Tre
