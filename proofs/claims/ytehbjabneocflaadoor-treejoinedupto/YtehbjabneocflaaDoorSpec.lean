/- Going to a path, as a plain function; the reference's step and at. -/
import Derived.Test.YtehbjabneocflaaDoorLoad
namespace Go.Proofs.YtehbjabneocflaaDoor
open Go.RowKit

/-- (the node, the error, how many links were gone through) -/
abbrev FRes := Nat × Int × Nat
def stepD (L : List NodeD) (thr : Nat → ByteArray → Nat → FRes) (k : Nat) (n : NodeD) (p : ByteArray) (th : Bool) (links : Nat) : FRes :=
  if p.toList == [46] then (k, 0, links) else
  if p.toList == [46, 46] then ((if k = 0 then 0 else n.up.toNat), 0, links) else
  if kidOf L n.kids p = -1 then (0, 6, links) else
  match L[(kidOf L n.kids p).toNat]? with
  | none => (0, 6, links)
  | some m => if m.kind == 108 && th then (if 40 ≤ links then (0, 9, links) else thr k m.text (links + 1)) else ((kidOf L n.kids p).toNat, 0, links)
def goD (L : List NodeD) (thr : Nat → ByteArray → Nat → FRes) (last : Bool) : List ByteArray → Nat → Nat → FRes
  | [], k, links => (k, 0, links)
  | p :: ps, k, links => match L[k]? with
    | none => (0, 7, links)
    | some n => if dirD n = false then (0, 7, links) else
        if (stepD L thr k n p (last || !ps.isEmpty) links).2.1 = 0 then goD L thr last ps (stepD L thr k n p (last || !ps.isEmpty) links).1 (stepD L thr k n p (last || !ps.isEmpty) links).2.2
        else (0, (stepD L thr k n p (last || !ps.isEmpty) links).2.1, (stepD L thr k n p (last || !ps.isEmpty) links).2.2)
def startAt (s : ByteArray) (k : Nat) : Nat := if s.data.toList.head? = some 47 then 0 else k
def endD (L : List NodeD) (dir : Bool) (r : FRes) : FRes := if r.2.1 = 0 then (match L[r.1]? with
  | some n => if dir && !dirD n then (0, 7, r.2.2) else r
  | none => r) else r
def findD (L : List NodeD) : Nat → Nat → ByteArray → Bool → Nat → FRes
  | 0, _, _, _, links => (0, 9, links)
  | F + 1, k, s, fo, links => if s.toList.isEmpty then (0, 6, links) else
      endD L (endsSlash s) (goD L (fun k t l => findD L F k t true l) (fo || endsSlash s) (partsS s) (startAt s k) links)

/-- Where it comes to is a node, and no more than forty links are gone through. -/
def okR (L : List NodeD) (l : Nat) (r : FRes) : Prop := r.1 < L.length ∧ r.2.2 ≤ 40 ∧ l ≤ r.2.2
theorem step_ok {L : List NodeD} {thr : Nat → ByteArray → Nat → FRes} (hwf : WF L) (ht : ∀ k t l, k < L.length → l ≤ 40 → okR L l (thr k t l)) {k : Nat} {n : NodeD} (hk : L[k]? = some n) (p : ByteArray) (th : Bool) {links : Nat} (hl : links ≤ 40) : okR L links (stepD L thr k n p th links) := by
  have hlt := (List.getElem?_eq_some_iff.1 hk).1
  unfold stepD
  by_cases h1 : (p.toList == [46]) = true
  · rw [if_pos h1]; exact ⟨hlt, hl, Nat.le_refl _⟩
  · rw [if_neg h1]
    by_cases h2 : (p.toList == [46, 46]) = true
    · rw [if_pos h2]
      refine ⟨?_, hl, Nat.le_refl _⟩
      by_cases h0 : k = 0
      · rw [if_pos h0]; show 0 < L.length; omega
      · rw [if_neg h0]
        have := hwf.up k n hk (by omega)
        show n.up.toNat < L.length
        omega
    · rw [if_neg h2]
      by_cases h3 : kidOf L n.kids p = -1
      · rw [if_pos h3]; exact ⟨by show 0 < L.length; omega, hl, Nat.le_refl _⟩
      · rw [if_neg h3]
        rcases kidOf_cases L n.kids p with h | ⟨c, h, hm⟩
        · exact absurd h h3
        · obtain ⟨m, hm2, _⟩ := hwf.kids k n hk c hm
          have hc := (List.getElem?_eq_some_iff.1 hm2).1
          rw [h, Int.toNat_natCast, hm2]
          show okR L links (if (m.kind == 108 && th) = true then _ else _)
          by_cases h4 : (m.kind == 108 && th) = true
          · rw [if_pos h4]
            by_cases h5 : 40 ≤ links
            · rw [if_pos h5]; exact ⟨by show 0 < L.length; omega, hl, Nat.le_refl _⟩
            · rw [if_neg h5]; have := ht k m.text (links + 1) hlt (by omega); exact ⟨this.1, this.2.1, Nat.le_trans (Nat.le_succ _) this.2.2⟩
          · rw [if_neg h4]; exact ⟨hc, hl, Nat.le_refl _⟩
theorem go_ok {L : List NodeD} {thr : Nat → ByteArray → Nat → FRes} (hwf : WF L) (ht : ∀ k t l, k < L.length → l ≤ 40 → okR L l (thr k t l)) (last : Bool) : ∀ (ps : List ByteArray) (k links : Nat), k < L.length → links ≤ 40 → okR L links (goD L thr last ps k links) := by
  intro ps
  induction ps with
  | nil => intro k links hk hl; exact ⟨hk, hl, Nat.le_refl _⟩
  | cons p ps ih =>
    intro k links hk hl
    obtain ⟨n, hn⟩ : ∃ n, L[k]? = some n := ⟨_, List.getElem?_eq_getElem hk⟩
    unfold goD
    rw [hn]
    show okR L links (if dirD n = false then _ else _)
    by_cases hd : dirD n = false
    · rw [if_pos hd]; exact ⟨by show 0 < L.length; omega, hl, Nat.le_refl _⟩
    · rw [if_neg hd]
      have hs := step_ok hwf ht hn p (last || !ps.isEmpty) hl
      by_cases he : (stepD L thr k n p (last || !ps.isEmpty) links).2.1 = 0
      · rw [if_pos he]; have := ih _ _ hs.1 hs.2.1; exact ⟨this.1, this.2.1, Nat.le_trans hs.2.2 this.2.2⟩
      · rw [if_neg he]; exact ⟨by show 0 < L.length; omega, hs.2.1, hs.2.2⟩
theorem find_ok {L : List NodeD} (hwf : WF L) : ∀ (F k : Nat) (s : ByteArray) (fo : Bool) (links : Nat), k < L.length → links ≤ 40 → okR L links (findD L F k s fo links) := by
  intro F
  induction F with
  | zero => intro k s fo links hk hl; exact ⟨by show 0 < L.length; omega, hl, Nat.le_refl _⟩
  | succ F ih =>
    intro k s fo links hk hl
    unfold findD
    cases he : s.toList.isEmpty
    · rw [if_neg (by simp)]
      have hst : startAt s k < L.length := by
        unfold startAt
        by_cases h : s.data.toList.head? = some 47
        · rw [if_pos h]; omega
        · rw [if_neg h]; exact hk
      have hg := go_ok hwf (fun k t l hk hl => ih k t true l hk hl) (fo || endsSlash s) (partsS s) (startAt s k) links hst hl
      unfold endD
      by_cases h0 : (goD L (fun k t l => findD L F k t true l) (fo || endsSlash s) (partsS s) (startAt s k) links).2.1 = 0
      · rw [if_pos h0]
        obtain ⟨n, hn⟩ : ∃ n, L[(goD L (fun k t l => findD L F k t true l) (fo || endsSlash s) (partsS s) (startAt s k) links).1]? = some n := ⟨_, List.getElem?_eq_getElem hg.1⟩
        rw [hn]
        show okR L links (if (endsSlash s && !dirD n) = true then _ else _)
        by_cases h2 : (endsSlash s && !dirD n) = true
        · rw [if_pos h2]; exact ⟨by show 0 < L.length; omega, hg.2.1, hg.2.2⟩
        · rw [if_neg h2]; exact hg
      · rw [if_neg h0]; exact hg
    · rw [if_pos rfl]; exact ⟨by show 0 < L.length; omega, hl, Nat.le_refl _⟩

theorem NodeRow.grown {C b : Nat} {W W' : World} {v : Value} {L : List NodeD} (h : NodeRow C W v L) (hg : W.grownBy W' (some b)) (hb : C ≤ b) : NodeRow C W' v L := by
  rcases h with h | ⟨g, cap, rfl, hgC, hc, hx⟩
  · exact .inl h
  · refine .inr ⟨g, cap, rfl, hgC, hc, fun i n hi => ?_⟩
    obtain ⟨kv, ⟨a0, a1, a2, a3, a4, a5, a6⟩, h2⟩ := hx i n hi
    have hc : ∀ (g' j : Nat) (u : Value), g' < C → W.cell? ⟨g', j, none⟩ = some u → W'.cell? ⟨g', j, none⟩ = some u := fun g' j u hg' hu => hg.cell (a := ⟨g', j, none⟩) hu (fun e => by have := Option.some.inj e; simp at this; omega)
    refine ⟨kv, ⟨hc _ _ _ hgC a0, hc _ _ _ hgC a1, hc _ _ _ hgC a2, hc _ _ _ hgC a3, hc _ _ _ hgC a4, hc _ _ _ hgC a5, hc _ _ _ hgC a6⟩, ?_⟩
    rcases h2 with h2 | ⟨g2, cap2, e, hg2, hc2, hx2⟩
    · exact .inl h2
    · exact .inr ⟨g2, cap2, e, hg2, hc2, fun j k hj => hc _ _ _ hg2 (hx2 j k hj)⟩

/-- A finder: the nodes, and how many links were gone through. -/
def FB (t : Nat) (W : World) (b : Nat) (v : Value) (links : Nat) : Prop := W.heap[b]? = some (.cells #[v, .int .i64 (links : Int)] t)
theorem FB.lt {t b links : Nat} {W : World} {v : Value} (h : FB t W b v links) : b < W.heap.size := (Array.getElem?_eq_some_iff.1 h).1
theorem FB.c0 {t b links : Nat} {W : World} {v : Value} (h : FB t W b v links) : W.cell? ⟨b, 0, none⟩ = some v := by simp [World.cell?, show W.heap[b]? = _ from h]
theorem FB.c1 {t b links : Nat} {W : World} {v : Value} (h : FB t W b v links) : W.cell? ⟨b, 1, none⟩ = some (.int .i64 (links : Int)) := by simp [World.cell?, show W.heap[b]? = _ from h]
theorem FB.fr {t b links : Nat} {W : World} {v : Value} (h : FB t W b v links) (j : Nat) : W.frozen? ⟨b, j, none⟩ = false := by simp [World.frozen?, show W.heap[b]? = _ from h]
theorem FB.set {t b links : Nat} {W : World} {v : Value} (h : FB t W b v links) (m : Nat) : FB t (W.setCell ⟨b, 1, none⟩ (.int .i64 (m : Int))) b v m := by
  obtain ⟨hlt, hk⟩ := Array.getElem?_eq_some_iff.1 h
  show (W.heap.modify b _)[b]? = _
  rw [Array.getElem?_eq_getElem (by rw [Array.size_modify]; exact hlt), Array.getElem_modify_self, hk]
  rfl
theorem FB.below {t b links C : Nat} {W W' : World} {v : Value} (h : FB t W b v links) (hb : Below C W W') (hC : b < C) : FB t W' b v links := (hb.block b hC).trans h
theorem grown_of_below {b : Nat} {w w' : World} (h : Below w.heap.size w w') : w.grownBy w' (some b) := ⟨h.os, h.tape, h.output, h.size, fun k hk _ => h.block k hk⟩

def AtPost (t : Nat) (v : Value) (b : Nat) (r : FRes) (w : World) (e : Ending) (w' : World) : Prop := e = .returned (.tuple #[.int .i64 (r.1 : Int), .int .i64 r.2.1]) ∧ FB t w' b v r.2.2 ∧ w.grownBy w' (some b)
end Go.Proofs.YtehbjabneocflaaDoor
