/- ere.Match; the law EreAgrees. -/
import Derived.Test.YtdlljlmgoiobpaaGreatDoorER
import Derived.Test.YtdlljlmgoiobpaaGreatDoorEX
import Derived.Test.YtdlljlmgoiobpaaGreatDoorDaJ
namespace Go.Proofs.YtdlljlmgoiobpaaGreatDoor
open Go.RowKit Go.Maps
theorem TabW.belowE {w w' : World} (h : TabW w) (h1 : 0 < w.heap.size) (hb : Below w.heap.size w w') : TabW w' := fun j hj => (hb.cell (p := ⟨0, j, none⟩) h1).trans (h j hj)
/-- What the world must hold. -/
structure GE (w : World) : Prop where
  mx : MaxW w
  tab : TabW w
  big : 1 < w.heap.size
theorem GE.below {w w' : World} (h : GE w) (hb : Below w.heap.size w w') : GE w' := ⟨h.mx.below h.big hb, h.tab.belowE (by have := h.big; omega) hb, by have := h.big; have := hb.size; omega⟩
/-- An error has a number. -/
def NoZ (ex : Nat → Res PtD) : Prop := ∀ i, ex i ≠ .bad 0
theorem noz_num (l : List UInt8) (i : Nat) (n : Int) : numD l i n ≠ .bad 0 := by
  unfold numD
  split
  · simp
  · split <;> simp
theorem noz_count (l : List UInt8) (i : Nat) : countD l i ≠ .bad 0 := by
  unfold countD
  cases h : numD l i 0 with
  | bad e => intro he; injection he with he; exact noz_num l i 0 (by rw [h, he])
  | ok n j =>
    simp only
    split
    · split
      · simp
      · cases h2 : numD l (j + 1) n with
        | bad e => intro he; injection he with he; exact noz_num l (j + 1) n (by rw [h2, he])
        | ok m k => simp only; split <;> simp
    · split <;> simp
theorem noz_rep (l : List UInt8) (i : Nat) : repD l i ≠ some (.bad 0) := by
  unfold repD
  split
  · simp
  split
  · simp
  split
  · simp
  split
  · intro h; injection h with h; exact noz_count l _ h
  · simp
theorem noz_partS (o : Res ByteArray) (h : o ≠ .bad 0) : partS o ≠ .bad 0 := by
  unfold partS
  cases o with
  | bad e => intro he; injection he with he; exact h (by rw [he])
  | ok t j => simp
theorem noz_atom {l : List UInt8} {f : Nat} {ex : Nat → Res PtD} (h : f ≠ 0 → NoZ ex) : NoZ (atomD f ex l) := by
  intro i
  unfold atomD
  split
  · unfold grpD
    split
    · simp
    · rename_i hf
      unfold shutD
      cases hx : ex (i + 1) with
      | bad e => intro he; injection he with he; exact h hf (i + 1) (by rw [hx, he])
      | ok p j => simp only; split <;> simp
  split
  · simp
  split
  · refine noz_partS _ ?_
    unfold brkD
    split <;> simp
  split
  · refine noz_partS _ ?_
    unfold escSD
    split
    · simp
    · split <;> simp
  · unfold litD
    split
    · simp
    · split <;> simp
theorem noz_reps (l : List UInt8) : ∀ (k : Nat) (p : PtD) (i : Nat), repsD l k p i ≠ .bad 0
  | 0, p, i => by unfold repsD; simp
  | k + 1, p, i => by
    unfold repsD
    cases h : repD l i with
    | none => simp
    | some o =>
      cases o with
      | bad e => intro he; injection he with he; exact noz_rep l i (by rw [h, he])
      | ok t j => exact noz_reps l k _ j
theorem noz_piece {l : List UInt8} {f : Nat} {ex : Nat → Res PtD} (h : f ≠ 0 → NoZ ex) : NoZ (epieceD f ex l) := by
  intro i
  unfold epieceD
  cases ha : atomD f ex l i with
  | bad e => intro he; injection he with he; exact noz_atom h i (by rw [ha, he])
  | ok p j =>
    simp only
    unfold fewD
    cases hr : repsD l l.length p j with
    | bad e => intro he; injection he with he; exact noz_reps l _ p j (by rw [hr, he])
    | ok q k => simp only; split <;> simp
theorem noz_pieces {l : List UInt8} {pc : Nat → Res PtD} (h : NoZ pc) : ∀ (k : Nat) (ps : List PtD) (i : Nat), piecesD pc l k ps i ≠ .bad 0
  | 0, ps, i => by unfold piecesD; simp
  | k + 1, ps, i => by
    unfold piecesD
    split
    · cases hp : pc i with
      | bad e => intro he; injection he with he; exact h i (by rw [hp, he])
      | ok p j => exact noz_pieces h k _ j
    · simp
theorem noz_joinR (op : Int) (o : Res (List PtD)) (h : o ≠ .bad 0) : joinR op o ≠ .bad 0 := by
  unfold joinR
  cases o with
  | bad e => intro he; injection he with he; exact h (by rw [he])
  | ok t j => simp
theorem noz_branch {l : List UInt8} {pc : Nat → Res PtD} (h : NoZ pc) : NoZ (branchD pc l) := by
  intro i
  unfold branchD
  cases ha : pc i with
  | bad e => intro he; injection he with he; exact h i (by rw [ha, he])
  | ok p j => exact noz_joinR 3 _ (noz_pieces h _ _ _)
theorem noz_branches {l : List UInt8} {br : Nat → Res PtD} (h : NoZ br) : ∀ (k : Nat) (ps : List PtD) (i : Nat), branchesD br l k ps i ≠ .bad 0
  | 0, ps, i => by unfold branchesD; simp
  | k + 1, ps, i => by
    unfold branchesD
    split
    · cases hp : br (i + 1) with
      | bad e => intro he; injection he with he; exact h (i + 1) (by rw [hp, he])
      | ok p j => exact noz_branches h k _ j
    · simp
theorem noz_exprOf {l : List UInt8} {br : Nat → Res PtD} (h : NoZ br) : NoZ (exprOf br l) := by
  intro i
  unfold exprOf
  cases ha : br i with
  | bad e => intro he; injection he with he; exact h i (by rw [ha, he])
  | ok p j => exact noz_joinR 4 _ (noz_branches h _ _ _)
theorem noz_expr (l : List UInt8) : ∀ f, NoZ (eexprD l f)
  | 0 => noz_exprOf (noz_branch (noz_piece (fun h => absurd rfl h)))
  | f + 1 => noz_exprOf (noz_branch (noz_piece (fun _ => noz_expr l f)))
theorem noz_read (l : List UInt8) : readD l ≠ .bad 0 := by
  unfold readD
  split
  · simp
  · unfold wholeD
    cases he : eexprD l 20 0 with
    | bad e => intro h; injection h with h; exact noz_expr l 20 0 (by rw [he, h])
    | ok p j => simp only; split <;> simp
def MatP (l : List UInt8) (t : List UInt8) (r : Bool) : Prop := match readD l with
  | .bad _ => r = false
  | .ok p _ => r = true ↔ InE p.e t
set_option maxRecDepth 100000 in
set_option maxHeartbeats 2000000 in
theorem ematch_any (s tx : ByteArray) (w : World) (hG : GE w) (hs : s.size ≤ 1000000000000000) (ht : tx.size ≤ 1000000000000000) :
    Calls Tryz.prog 6 #[.string s, .string tx] w fun e w' => (∃ r, e = .returned (.tuple #[.bool r, .int .i64 (ereErr (readD s.data.toList) : Int)]) ∧ MatP s.data.toList tx.data.toList r) ∧ Below w.heap.size w w' := by
  have hpa := eparse_any s w hG.mx hG.big hs
  have HG := hide hG
  obtain ⟨o, ho⟩ : ∃ o, readD s.data.toList = o := ⟨_, rfl⟩
  unfold MatP
  have hnz := noz_read s.data.toList
  rw [ho] at hnz
  have hwt := fun p j h => read_wt (l := s.data.toList) (p := p) (j := j) h
  rw [ho] at hpa
  simp only [ho] at hwt ⊢
  clear hG ho
  cases o with
  | bad r =>
    have hr0 : r ≠ 0 := fun h => hnz (by rw [h])
    have hrb : ((r : Int) != 0) = true := by rw [bne_iff_ne]; omega
    clear hnz hwt
    go_enter Tryz.func6, Tryz.ntmps6
    go_wp2_with fail
    refine hpa.mono ?_
    rintro e w1 ⟨hb1, pl, rfl⟩
    have b2 : Below w1.heap.size w1 (w1.alloc (.cells #[.int .i64 0, .string ⟨#[]⟩, .slice none 0 0] 24)) := (FrE.alloc w1.heap.size _ _).below (Nat.le_refl _)
    have H1 := hide (⟨hb1, b2⟩ : _ ∧ _)
    clear hb1 b2 hpa
    go_wp2
    exact bodyPost_ret (v := .tuple #[.bool false, .int .i64 (r : Int)]) (by simp [results, Tryz.results6, go_sem]) rfl ⟨⟨false, rfl, rfl⟩, H1.out.1.trans (below_weaken H1.out.2 H1.out.1.size)⟩
  | ok p j =>
    clear hnz
    go_enter Tryz.func6, Tryz.ntmps6
    go_wp2_with fail
    refine hpa.mono ?_
    rintro e w1 ⟨hb1, b, op, st, ka, m, c, ks, rfl, hwb, hpe, hst, hk⟩
    obtain ⟨W2, hW2⟩ : ∃ W2, w1.alloc (.cells #[.int .i64 op, .string st, .slice ka m c] 24) = W2 := ⟨_, rfl⟩
    have f2 : ∀ x, FrE x w1 W2 := by intro x; rw [← hW2]; exact FrE.alloc _ _ _
    have b2 : Below w1.heap.size w1 W2 := (f2 w1.heap.size).below (Nat.le_refl _)
    have B2 : Below w.heap.size w W2 := hb1.trans (below_weaken b2 hb1.size)
    have G2 := HG.out.below B2
    have k2 := hk.keep (f2 b)
    have hw := hwt p j rfl
    rw [hpe] at hw
    have hma := match_any op st (.slice ka m c) ks tx W2 k2.at_ hst hw ht G2.tab (by have := G2.big; omega)
    have hbx : W2.heap[w1.heap.size]? = some (.cells #[.int .i64 op, .string st, .slice ka m c] 24 (0, 0)) := by rw [← hW2]; exact World.alloc_heap_new w1 _
    have c0 : W2.cell? ⟨w1.heap.size, 0, none⟩ = some (.int .i64 op) := by simp [World.cell?, hbx]
    have c1 : W2.cell? ⟨w1.heap.size, 1, none⟩ = some (.string st) := by simp [World.cell?, hbx]
    have c2 : W2.cell? ⟨w1.heap.size, 2, none⟩ = some (.slice ka m c) := by simp [World.cell?, hbx]
    have H2 := hide (⟨B2, hpe⟩ : _ ∧ _)
    clear hb1 hk hst hpe f2 b2 B2 G2 k2 hw hbx hpa hwt hwb
    go_wp2_with fail
    refine hma.mono ?_
    rintro e w3 ⟨r, rfl, hr, b3⟩
    go_wp2
    obtain ⟨B2, hpe⟩ := H2.out
    refine bodyPost_ret (v := .tuple #[.bool r, .int .i64 0]) (by simp [results, Tryz.results6, go_sem]) rfl ⟨⟨r, rfl, ?_⟩, B2.trans (below_weaken b3 B2.size)⟩
    rw [hpe]
    exact hr
end Go.Proofs.YtdlljlmgoiobpaaGreatDoor
