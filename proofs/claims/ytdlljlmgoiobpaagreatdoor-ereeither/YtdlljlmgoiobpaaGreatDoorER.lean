/- Merged: ErR, EsA. -/
import Derived.Test.YtdlljlmgoiobpaaGreatDoorEH
import Derived.Test.YtdlljlmgoiobpaaGreatDoorEL
/- What an expression is read as: plain. -/
namespace Go.Proofs.YtdlljlmgoiobpaaGreatDoor
open Go.RowKit Go.Maps
def optD (e : ExprD) : ExprD := .mk 4 [] [.mk 1 [] [], e]
def kidsD (e : ExprD) (t : TimesD) : List ExprD := List.replicate t.least.toNat e ++ (if t.endless then [.mk 5 [] [e]] else List.replicate (t.most - t.least).toNat (optD e))
def repeatD (p : PtD) (t : TimesD) : PtD := if min (p.atoms * copiesD t) 1001 = 0 then ⟨.mk 1 [] [], 0⟩ else ⟨.mk 3 [] (kidsD p.e t), min (p.atoms * copiesD t) 1001⟩
def TmOK (t : TimesD) : Prop := 0 ≤ t.least ∧ t.least ≤ 255 ∧ (t.endless = true ∨ (t.least ≤ t.most ∧ t.most ≤ 255))
theorem copiesD_bound {t : TimesD} (h : TmOK t) : 0 ≤ copiesD t ∧ copiesD t ≤ 256 := by
  unfold copiesD
  obtain ⟨h1, h2, h3⟩ := h
  split
  · omega
  · rename_i hn
    rcases h3 with h3 | h3
    · exact absurd h3 hn
    · omega
def noBytesL : List UInt8 := [94, 46, 91, 36, 40, 41, 124, 42, 43, 63, 123, 92]
def litD (l : List UInt8) (i : Nat) : Res PtD := match l[i]? with
  | none => .bad 2
  | some c => if noBytesL.contains c = true then .bad 2 else .ok ⟨.mk 2 [c] [], 1⟩ (i + 1)
def partS (o : Res ByteArray) : Res PtD := match o with
  | .bad e => .bad e
  | .ok t j => .ok ⟨.mk 2 t.data.toList [], 1⟩ j
/-- Behind what was read: what must stand there. -/
def shutD (l : List UInt8) (o : Res PtD) : Res PtD := match o with
  | .bad e => .bad e
  | .ok p j => if l[j]? = some 41 then .ok p (j + 1) else .bad 2
def grpD (f : Nat) (ex : Nat → Res PtD) (l : List UInt8) (i : Nat) : Res PtD := if f = 0 then .bad 5 else shutD l (ex i)
def atomD (f : Nat) (ex : Nat → Res PtD) (l : List UInt8) (i : Nat) : Res PtD :=
  if l[i]? = some 40 then grpD f ex l (i + 1)
  else if l[i]? = some 46 then .ok ⟨.mk 2 (textTo butS 256) [], 1⟩ (i + 1)
  else if l[i]? = some 91 then partS (brkD l (i + 1))
  else if l[i]? = some 92 then partS (escSD l (i + 1))
  else litD l i
def repsD (l : List UInt8) : Nat → PtD → Nat → Res PtD
  | 0, p, i => .ok p i
  | k + 1, p, i => match repD l i with
    | none => .ok p i
    | some (.bad e) => .bad e
    | some (.ok t j) => repsD l k (repeatD p t) j
def fewD (o : Res PtD) : Res PtD := match o with
  | .bad e => .bad e
  | .ok p j => if 1000 < p.atoms then .bad 4 else .ok p j
def epieceD (f : Nat) (ex : Nat → Res PtD) (l : List UInt8) (i : Nat) : Res PtD := match atomD f ex l i with
  | .bad e => .bad e
  | .ok p j => fewD (repsD l l.length p j)
def moreB (l : List UInt8) (i : Nat) : Bool := match l[i]? with
  | none => false
  | some c => !(c == 124) && !(c == 41)
def piecesD (pc : Nat → Res PtD) (l : List UInt8) : Nat → List PtD → Nat → Res (List PtD)
  | 0, ps, i => .ok ps i
  | k + 1, ps, i => if moreB l i = true then (match pc i with
    | .bad e => .bad e
    | .ok p j => piecesD pc l k (ps ++ [p]) j) else .ok ps i
def joinR (op : Int) (o : Res (List PtD)) : Res PtD := match o with
  | .bad e => .bad e
  | .ok ps j => .ok (joinD op ps) j
def branchD (pc : Nat → Res PtD) (l : List UInt8) (i : Nat) : Res PtD := match pc i with
  | .bad e => .bad e
  | .ok p j => joinR 3 (piecesD pc l l.length [p] j)
def branchesD (br : Nat → Res PtD) (l : List UInt8) : Nat → List PtD → Nat → Res (List PtD)
  | 0, ps, i => .ok ps i
  | k + 1, ps, i => if l[i]? = some 124 then (match br (i + 1) with
    | .bad e => .bad e
    | .ok p j => branchesD br l k (ps ++ [p]) j) else .ok ps i
def exprOf (br : Nat → Res PtD) (l : List UInt8) (i : Nat) : Res PtD := match br i with
  | .bad e => .bad e
  | .ok p j => joinR 4 (branchesD br l l.length [p] j)
/-- An expression; so many brackets may be opened within it. -/
def eexprD (l : List UInt8) : Nat → Nat → Res PtD
  | 0 => exprOf (branchD (epieceD 0 (fun _ => .bad 5) l) l) l
  | f + 1 => exprOf (branchD (epieceD (f + 1) (eexprD l f) l) l) l
def wholeD (l : List UInt8) (o : Res PtD) : Res PtD := match o with
  | .bad e => .bad e
  | .ok p j => if j < l.length then .bad 2 else .ok p j
def readD (l : List UInt8) : Res PtD := if 200 < l.length then .bad 1 else wholeD l (eexprD l 20 0)
/-- What is read goes on, and has atoms within bounds. -/
def GoesE (l : List UInt8) (ex : Nat → Res PtD) : Prop := ∀ i p j, i ≤ l.length → ex i = .ok p j → i < j ∧ j ≤ l.length ∧ 0 ≤ p.atoms ∧ p.atoms ≤ 1000 * ((j : Int) - i)
theorem goes_shut {l : List UInt8} {ex : Nat → Res PtD} {i j : Nat} {p : PtD} (h : GoesE l ex) (hi : i ≤ l.length) (he : shutD l (ex i) = .ok p j) : i < j ∧ j ≤ l.length ∧ 0 ≤ p.atoms ∧ p.atoms ≤ 1000 * ((j : Int) - i) := by
  unfold shutD at he
  cases hx : ex i with
  | bad e => rw [hx] at he; cases he
  | ok q k =>
    rw [hx] at he
    simp only at he
    split at he
    · rename_i h41
      cases he
      obtain ⟨h1, h2, h3, h4⟩ := h i _ k hi hx
      have := (List.getElem?_eq_some_iff.1 h41).1
      exact ⟨by omega, by omega, h3, by omega⟩
    · cases he
theorem goes_atom {l : List UInt8} {f : Nat} {ex : Nat → Res PtD} (h : f ≠ 0 → GoesE l ex) : GoesE l (atomD f ex l) := by
  intro i p j hi he
  unfold atomD at he
  split at he
  · rename_i hc
    have hl := (List.getElem?_eq_some_iff.1 hc).1
    unfold grpD at he
    split at he
    · cases he
    · rename_i hf
      obtain ⟨h1, h2, h3, h4⟩ := goes_shut (h hf) (by omega) he
      exact ⟨by omega, h2, h3, by omega⟩
  split at he
  · rename_i hc
    have hl := (List.getElem?_eq_some_iff.1 hc).1
    cases he
    exact ⟨by omega, by omega, by simp, by simp; omega⟩
  split at he
  · rename_i hc
    have hl := (List.getElem?_eq_some_iff.1 hc).1
    unfold partS brkD plainBrD at he
    rw [Nat.add_sub_cancel] at he
    cases hb : bracketD false [94] (l.drop i) with
    | none => rw [hb] at he; cases he
    | some q =>
      rw [hb] at he
      simp only at he
      cases hk : q.known with
      | false => rw [hk] at he; simp at he
      | true =>
        rw [hk] at he
        simp only [if_true] at he
        cases he
        have := bracketD_rest hb
        rw [List.length_drop] at this ⊢
        exact ⟨by omega, by omega, by simp, by simp; omega⟩
  split at he
  · rename_i hc
    have hl := (List.getElem?_eq_some_iff.1 hc).1
    unfold partS escSD at he
    cases hb : l[i + 1]? with
    | none => rw [hb] at he; cases he
    | some q =>
      have hl2 := (List.getElem?_eq_some_iff.1 hb).1
      rw [hb] at he
      simp only at he
      cases hs : signsL.contains q with
      | false => rw [hs] at he; simp at he
      | true =>
        rw [hs] at he
        simp only [if_true] at he
        cases he
        exact ⟨by omega, by omega, by simp, by simp; omega⟩
  · unfold litD at he
    cases hb : l[i]? with
    | none => rw [hb] at he; cases he
    | some q =>
      have hl2 := (List.getElem?_eq_some_iff.1 hb).1
      rw [hb] at he
      simp only at he
      split at he
      · cases he
      · cases he
        exact ⟨by omega, by omega, by simp, by simp; omega⟩
theorem numD_goes {l : List UInt8} {i j : Nat} {least n : Int} (hi : i ≤ l.length) (h : numD l i least = .ok n j) : i < j ∧ j ≤ l.length ∧ least ≤ n ∧ n ≤ 255 := by
  have hr := numD_room hi h
  unfold numD at h
  split at h
  · cases h
  split at h
  · cases h
  · cases h
    exact ⟨by omega, hr, by omega, by omega⟩
theorem countD_goes {l : List UInt8} {i j : Nat} {t : TimesD} (hi : i ≤ l.length) (h : countD l i = .ok t j) : i < j ∧ j ≤ l.length ∧ TmOK t := by
  unfold countD at h
  cases hn : numD l i 0 with
  | bad e => rw [hn] at h; cases h
  | ok n k =>
    rw [hn] at h
    obtain ⟨n1, n2, n3, n4⟩ := numD_goes hi hn
    simp only at h
    split at h
    · rename_i hc
      have hlt := (List.getElem?_eq_some_iff.1 hc).1
      split at h
      · rename_i hc2
        have hlt2 := (List.getElem?_eq_some_iff.1 hc2).1
        cases h
        exact ⟨by omega, by omega, n3, n4, .inl rfl⟩
      · cases hm : numD l (k + 1) n with
        | bad e => rw [hm] at h; cases h
        | ok m q =>
          rw [hm] at h
          obtain ⟨m1, m2, m3, m4⟩ := numD_goes (by omega) hm
          simp only at h
          split at h
          · rename_i hc2
            have hlt2 := (List.getElem?_eq_some_iff.1 hc2).1
            cases h
            exact ⟨by omega, by omega, n3, n4, .inr ⟨m3, m4⟩⟩
          · cases h
    · split at h
      · rename_i hc2
        have hlt2 := (List.getElem?_eq_some_iff.1 hc2).1
        cases h
        exact ⟨by omega, by omega, n3, n4, .inr ⟨by show n ≤ n; omega, by show n ≤ 255; omega⟩⟩
      · cases h
theorem repD_goes {l : List UInt8} {i j : Nat} {t : TimesD} (h : repD l i = some (.ok t j)) : i < j ∧ j ≤ l.length ∧ TmOK t := by
  unfold repD at h
  split at h
  · rename_i hc
    have hl := (List.getElem?_eq_some_iff.1 hc).1
    cases h
    exact ⟨by omega, by omega, by decide, by decide, .inl rfl⟩
  split at h
  · rename_i hc
    have hl := (List.getElem?_eq_some_iff.1 hc).1
    cases h
    exact ⟨by omega, by omega, by decide, by decide, .inl rfl⟩
  split at h
  · rename_i hc
    have hl := (List.getElem?_eq_some_iff.1 hc).1
    cases h
    exact ⟨by omega, by omega, by decide, by decide, .inr ⟨by decide, by decide⟩⟩
  split at h
  · rename_i hc
    have hl := (List.getElem?_eq_some_iff.1 hc).1
    injection h with h
    obtain ⟨h1, h2, h3⟩ := countD_goes (by omega) h
    exact ⟨by omega, h2, h3⟩
  · cases h
theorem repeatD_atoms {p : PtD} {t : TimesD} (ht : TmOK t) (h0 : 0 ≤ p.atoms) : 0 ≤ (repeatD p t).atoms ∧ (repeatD p t).atoms ≤ 1001 := by
  have := copiesD_bound ht
  have h1 := Int.mul_nonneg h0 this.1
  unfold repeatD
  split
  · exact ⟨by decide, by decide⟩
  · show 0 ≤ min _ _ ∧ min _ _ ≤ _
    omega
theorem goes_reps {l : List UInt8} : ∀ (k : Nat) (p q : PtD) (i j : Nat), i ≤ l.length → 0 ≤ p.atoms → repsD l k p i = .ok q j → i ≤ j ∧ j ≤ l.length ∧ 0 ≤ q.atoms
  | 0, p, q, i, j, hi, h0, h => by cases h; exact ⟨Nat.le_refl _, hi, h0⟩
  | k + 1, p, q, i, j, hi, h0, h => by
    unfold repsD at h
    cases hr : repD l i with
    | none => rw [hr] at h; cases h; exact ⟨Nat.le_refl _, hi, h0⟩
    | some o =>
      rw [hr] at h
      cases o with
      | bad e => cases h
      | ok t j' =>
        simp only at h
        obtain ⟨h1, h2, h3⟩ := repD_goes hr
        obtain ⟨g1, g2, g3⟩ := goes_reps k _ q j' j h2 (repeatD_atoms h3 h0).1 h
        exact ⟨by omega, g2, g3⟩
theorem goes_piece {l : List UInt8} {f : Nat} {ex : Nat → Res PtD} (h : f ≠ 0 → GoesE l ex) : GoesE l (epieceD f ex l) := by
  intro i p j hi he
  unfold epieceD at he
  cases ha : atomD f ex l i with
  | bad e => rw [ha] at he; cases he
  | ok q k =>
    rw [ha] at he
    simp only at he
    obtain ⟨h1, h2, h3, h4⟩ := goes_atom h i q k hi ha
    cases hr : repsD l l.length q k with
    | bad e => rw [hr] at he; cases he
    | ok r n =>
      rw [hr] at he
      unfold fewD at he
      simp only at he
      obtain ⟨g1, g2, g3⟩ := goes_reps _ q r k n h2 h3 hr
      split at he
      · cases he
      · cases he
        exact ⟨by omega, g2, g3, by omega⟩
theorem joinD_atoms (op : Int) (ps : List PtD) : (joinD op ps).atoms = (ps.map (·.atoms)).sum := by
  unfold joinD
  split
  · simp
  · rfl
theorem goes_pieces {l : List UInt8} {pc : Nat → Res PtD} (h : GoesE l pc) (i0 : Nat) : ∀ (k : Nat) (ps qs : List PtD) (i j : Nat), i0 ≤ i → i ≤ l.length → (∀ p ∈ ps, 0 ≤ p.atoms) → (ps.map (·.atoms)).sum ≤ 1000 * ((i : Int) - i0) → ps.length ≤ i - i0 → piecesD pc l k ps i = .ok qs j → i ≤ j ∧ j ≤ l.length ∧ (∀ p ∈ qs, 0 ≤ p.atoms) ∧ (qs.map (·.atoms)).sum ≤ 1000 * ((j : Int) - i0) ∧ qs.length ≤ j - i0
  | 0, ps, qs, i, j, _, hi, h0, hs, hl, he => by cases he; exact ⟨Nat.le_refl _, hi, h0, hs, hl⟩
  | k + 1, ps, qs, i, j, hi0, hi, h0, hs, hl, he => by
    unfold piecesD at he
    split at he
    · cases hp : pc i with
      | bad e => rw [hp] at he; cases he
      | ok p n =>
        rw [hp] at he
        simp only at he
        obtain ⟨h1, h2, h3, h4⟩ := h i p n hi hp
        obtain ⟨g1, g2, g3, g4, g5⟩ := goes_pieces h i0 k (ps ++ [p]) qs n j (by omega) h2 (fun q hq => by
          rcases List.mem_append.1 hq with hq | hq
          · exact h0 q hq
          · rw [List.mem_singleton.1 hq]; exact h3) (by rw [List.map_append, List.sum_append]; simp; omega) (by rw [List.length_append]; simp; omega) he
        exact ⟨by omega, g2, g3, g4, g5⟩
    · cases he; exact ⟨Nat.le_refl _, hi, h0, hs, hl⟩
theorem sum_nonneg (ps : List PtD) (h : ∀ p ∈ ps, 0 ≤ p.atoms) : 0 ≤ (ps.map (·.atoms)).sum := by
  induction ps with
  | nil => simp
  | cons p ps ih =>
    have h1 := h p (by simp)
    have h2 := ih (fun q hq => h q (by simp [hq]))
    simp only [List.map_cons, List.sum_cons]
    omega
theorem goes_branch {l : List UInt8} {pc : Nat → Res PtD} (h : GoesE l pc) : GoesE l (branchD pc l) := by
  intro i p j hi he
  unfold branchD at he
  cases ha : pc i with
  | bad e => rw [ha] at he; cases he
  | ok q k =>
    rw [ha] at he
    simp only at he
    obtain ⟨h1, h2, h3, h4⟩ := h i q k hi ha
    cases hr : piecesD pc l l.length [q] k with
    | bad e => rw [hr] at he; cases he
    | ok r n =>
      rw [hr] at he
      unfold joinR at he
      simp only at he
      obtain ⟨g1, g2, g3, g4, g5⟩ := goes_pieces h i _ [q] r k n (by omega) h2 (by simpa using h3) (by simpa using h4) (by simp; omega) hr
      cases he
      rw [joinD_atoms]
      exact ⟨by omega, g2, sum_nonneg _ g3, g4⟩
theorem goes_branches {l : List UInt8} {br : Nat → Res PtD} (h : GoesE l br) (i0 : Nat) : ∀ (k : Nat) (ps qs : List PtD) (i j : Nat), i0 ≤ i → i ≤ l.length → (∀ p ∈ ps, 0 ≤ p.atoms) → (ps.map (·.atoms)).sum ≤ 1000 * ((i : Int) - i0) → ps.length ≤ i - i0 → branchesD br l k ps i = .ok qs j → i ≤ j ∧ j ≤ l.length ∧ (∀ p ∈ qs, 0 ≤ p.atoms) ∧ (qs.map (·.atoms)).sum ≤ 1000 * ((j : Int) - i0) ∧ qs.length ≤ j - i0
  | 0, ps, qs, i, j, _, hi, h0, hs, hl, he => by cases he; exact ⟨Nat.le_refl _, hi, h0, hs, hl⟩
  | k + 1, ps, qs, i, j, hi0, hi, h0, hs, hl, he => by
    unfold branchesD at he
    split at he
    · rename_i hc
      have hlt := (List.getElem?_eq_some_iff.1 hc).1
      cases hp : br (i + 1) with
      | bad e => rw [hp] at he; cases he
      | ok p n =>
        rw [hp] at he
        simp only at he
        obtain ⟨h1, h2, h3, h4⟩ := h (i + 1) p n (by omega) hp
        obtain ⟨g1, g2, g3, g4, g5⟩ := goes_branches h i0 k (ps ++ [p]) qs n j (by omega) h2 (fun q hq => by
          rcases List.mem_append.1 hq with hq | hq
          · exact h0 q hq
          · rw [List.mem_singleton.1 hq]; exact h3) (by rw [List.map_append, List.sum_append]; simp; omega) (by rw [List.length_append]; simp; omega) he
        exact ⟨by omega, g2, g3, g4, g5⟩
    · cases he; exact ⟨Nat.le_refl _, hi, h0, hs, hl⟩
theorem goes_exprOf {l : List UInt8} {br : Nat → Res PtD} (h : GoesE l br) : GoesE l (exprOf br l) := by
  intro i p j hi he
  unfold exprOf at he
  cases ha : br i with
  | bad e => rw [ha] at he; cases he
  | ok q k =>
    rw [ha] at he
    simp only at he
    obtain ⟨h1, h2, h3, h4⟩ := h i q k hi ha
    cases hr : branchesD br l l.length [q] k with
    | bad e => rw [hr] at he; cases he
    | ok r n =>
      rw [hr] at he
      unfold joinR at he
      simp only at he
      obtain ⟨g1, g2, g3, g4, g5⟩ := goes_branches h i _ [q] r k n (by omega) h2 (by simpa using h3) (by simpa using h4) (by simp; omega) hr
      cases he
      rw [joinD_atoms]
      exact ⟨by omega, g2, sum_nonneg _ g3, g4⟩
theorem goes_expr (l : List UInt8) : ∀ f, GoesE l (eexprD l f)
  | 0 => goes_exprOf (goes_branch (goes_piece (fun h => absurd rfl h)))
  | f + 1 => goes_exprOf (goes_branch (goes_piece (fun _ => goes_expr l f)))
end Go.Proofs.YtdlljlmgoiobpaaGreatDoor
/- How heavy what is read may be. -/
namespace Go.Proofs.YtdlljlmgoiobpaaGreatDoor
open Go.RowKit Go.Maps
/-- A part is no heavier than its atoms and its bytes allow. -/
def LightP (p : PtD) (n : Nat) : Prop := 1 ≤ n ∧ 0 ≤ p.atoms ∧ (p.atoms ≤ 1000 → (wt p.e : Int) + 3 ≤ 10 * (max p.atoms 1) * (n : Int))
theorem LightP.grow {p : PtD} {n m : Nat} (h : LightP p n) (hm : n ≤ m) : LightP p m := by
  obtain ⟨h1, h0, h2⟩ := h
  refine ⟨by omega, h0, fun hb => ?_⟩
  have h3 := h2 hb
  have h4 : 10 * (max p.atoms 1) * (n : Int) ≤ 10 * (max p.atoms 1) * (m : Int) := Int.mul_le_mul_of_nonneg_left (by omega) (by omega)
  omega
theorem wtL_rep (e : ExprD) (k : Nat) : wtL (List.replicate k e) = k * (wt e + 1) := by
  induction k with
  | zero => simp [wtL]
  | succ k ih => rw [List.replicate_succ, wtL, ih, Nat.add_mul]; omega
theorem wtL_app (a b : List ExprD) : wtL (a ++ b) = wtL a + wtL b := by
  induction a with
  | nil => simp [wtL]
  | cons k ks ih => rw [List.cons_append, wtL, wtL, ih]; omega
theorem wt_opt (e : ExprD) : wt (optD e) = wt e + 4 := by
  unfold optD
  rw [wt, wtL, wtL, wtL, wt, wtL]
  omega
theorem light_byte (st : List UInt8) : LightP ⟨.mk 2 st [], 1⟩ 1 := by
  refine ⟨Nat.le_refl _, by show (0 : Int) ≤ 1; decide, fun _ => ?_⟩
  show ((wt (.mk 2 st []) : Nat) : Int) + 3 ≤ 10 * max (1 : Int) 1 * ((1 : Nat) : Int)
  rw [wt, wtL]
  decide
theorem light_repeat {p : PtD} {n : Nat} {t : TimesD} (h : LightP p n) (ht : TmOK t) : LightP (repeatD p t) (n + 1) := by
  obtain ⟨h1, h0, h2⟩ := h
  have hc := copiesD_bound ht
  have hra := repeatD_atoms ht h0
  refine ⟨by omega, hra.1, fun hb => ?_⟩
  unfold repeatD at hb ⊢
  by_cases hz : min (p.atoms * copiesD t) 1001 = 0
  · rw [if_pos hz]
    show ((wt (.mk 1 [] []) : Nat) : Int) + 3 ≤ 10 * (max (0 : Int) 1) * ((n + 1 : Nat) : Int)
    rw [wt, wtL, show max (0 : Int) 1 = 1 by decide]
    omega
  · rw [if_neg hz] at hb ⊢
    simp only at hb ⊢
    have hp : p.atoms * copiesD t ≤ 1000 := by omega
    have hpn : 0 ≤ p.atoms * copiesD t := Int.mul_nonneg h0 hc.1
    have hp1 : 1 ≤ p.atoms := by
      rcases Int.lt_or_le 0 p.atoms with h | h
      · omega
      · have : p.atoms = 0 := by omega
        rw [this, Int.zero_mul] at hz
        exact absurd (by decide) hz
    have hc1 : 1 ≤ copiesD t := by
      rcases Int.lt_or_le 0 (copiesD t) with h | h
      · omega
      · have : copiesD t = 0 := by omega
        rw [this, Int.mul_zero] at hz
        exact absurd (by decide) hz
    have hpa : p.atoms ≤ 1000 := by
      have : p.atoms * 1 ≤ p.atoms * copiesD t := Int.mul_le_mul_of_nonneg_left hc1 h0
      omega
    have hw := h2 hpa
    have hkw : ((wtL (kidsD p.e t) : Nat) : Int) ≤ copiesD t * ((wt p.e : Int) + 5) + 3 := by
      obtain ⟨ht1, ht2, ht3⟩ := ht
      unfold kidsD copiesD
      cases hte : t.endless with
      | true =>
        simp only [if_true]
        rw [wtL_app, wtL_rep]
        have : wtL [ExprD.mk 5 [] [p.e]] = wt p.e + 3 := by rw [wtL, wtL, wt, wtL, wtL]
        rw [this]
        obtain ⟨k, hk⟩ := Int.eq_ofNat_of_zero_le ht1
        rw [hk]
        simp only [Int.toNat_natCast]
        have e1 : (((k * (wt p.e + 1) + (wt p.e + 3) : Nat)) : Int) = (k : Int) * ((wt p.e : Int) + 1) + ((wt p.e : Int) + 3) := by push_cast; try rfl
        rw [e1, Int.add_mul]
        have e2 : (k : Int) * ((wt p.e : Int) + 1) ≤ (k : Int) * ((wt p.e : Int) + 5) := Int.mul_le_mul_of_nonneg_left (by omega) (by omega)
        omega
      | false =>
        simp only [Bool.false_eq_true, if_false]
        rw [wtL_app, wtL_rep, wtL_rep, wt_opt]
        have hle : t.least ≤ t.most := by
          rcases ht3 with h | h
          · rw [hte] at h; cases h
          · exact h.1
        obtain ⟨k, hk⟩ := Int.eq_ofNat_of_zero_le ht1
        obtain ⟨q, hq⟩ := Int.eq_ofNat_of_zero_le (a := t.most - t.least) (by omega)
        rw [hk] at hq ⊢
        rw [hq]
        simp only [Int.toNat_natCast]
        have hm : t.most = (k : Int) + (q : Int) := by omega
        rw [hm]
        have e1 : (((k * (wt p.e + 1) + q * (wt p.e + 4 + 1) : Nat)) : Int) = (k : Int) * ((wt p.e : Int) + 1) + (q : Int) * ((wt p.e : Int) + 5) := by push_cast; try rfl
        rw [e1, Int.add_mul]
        have e2 : (k : Int) * ((wt p.e : Int) + 1) ≤ (k : Int) * ((wt p.e : Int) + 5) := Int.mul_le_mul_of_nonneg_left (by omega) (by omega)
        omega
    rw [wt]
    have hmx : max p.atoms 1 = p.atoms := by omega
    rw [hmx] at hw
    have hmin : min (p.atoms * copiesD t) 1001 = p.atoms * copiesD t := by omega
    rw [hmin]
    have hpc : 1 ≤ p.atoms * copiesD t := by omega
    have hmx2 : max (p.atoms * copiesD t) 1 = p.atoms * copiesD t := by omega
    rw [hmx2]
    have h5 : copiesD t * ((wt p.e : Int) + 5) ≤ copiesD t * (10 * p.atoms * (n : Int) + 2) := Int.mul_le_mul_of_nonneg_left (by omega) (by omega)
    have h6 : copiesD t * (10 * p.atoms * (n : Int) + 2) = 10 * (p.atoms * copiesD t) * (n : Int) + 2 * copiesD t := by
      rw [Int.mul_add]
      have : copiesD t * (10 * p.atoms * (n : Int)) = 10 * (p.atoms * copiesD t) * (n : Int) := by
        rw [← Int.mul_assoc, ← Int.mul_assoc, Int.mul_comm (copiesD t) 10, Int.mul_assoc 10, Int.mul_comm (copiesD t) p.atoms]
      rw [this, Int.mul_comm (copiesD t) 2]
    have h7 : copiesD t * 1 ≤ copiesD t * p.atoms := Int.mul_le_mul_of_nonneg_left hp1 hc.1
    rw [Int.mul_one, Int.mul_comm (copiesD t) p.atoms] at h7
    have h8 : 10 * (p.atoms * copiesD t) * ((n + 1 : Nat) : Int) = 10 * (p.atoms * copiesD t) * (n : Int) + 10 * (p.atoms * copiesD t) := by push_cast; rw [Int.mul_add, Int.mul_one]
    rw [h8]
    push_cast
    omega
/-- What a part weighs that passed. -/
def Wgh (p : PtD) (n : Nat) : Prop := 1 ≤ n ∧ 0 ≤ p.atoms ∧ (wt p.e : Int) + 3 ≤ 10000 * (n : Int) ∧ (p.atoms ≤ 1000 → (wt p.e : Int) + 3 ≤ 10 * (max p.atoms 1) * (n : Int))
theorem Wgh.light {p : PtD} {n : Nat} (h : Wgh p n) : LightP p n := ⟨h.1, h.2.1, h.2.2.2⟩
theorem LightP.wgh {p : PtD} {n : Nat} (h : LightP p n) (ha : p.atoms ≤ 1000) : Wgh p n := by
  obtain ⟨h1, h0, h2⟩ := h
  refine ⟨h1, h0, ?_, h2⟩
  have h3 := h2 ha
  have h4 : 10 * (max p.atoms 1) * (n : Int) ≤ 10000 * (n : Int) := Int.mul_le_mul_of_nonneg_right (by omega) (by omega)
  omega
def WL (ps : List PtD) (n : Nat) : Prop := 1 ≤ n ∧ 1 ≤ ps.length ∧ 0 ≤ (ps.map (·.atoms)).sum ∧ (wtL (ps.map (·.e)) : Int) + 2 * ps.length ≤ 10000 * (n : Int) ∧ ((ps.map (·.atoms)).sum ≤ 1000 → (wtL (ps.map (·.e)) : Int) + 2 * ps.length ≤ 10 * (max (ps.map (·.atoms)).sum 1) * (n : Int))
theorem WL.one {p : PtD} {n : Nat} (h : Wgh p n) : WL [p] n := by
  obtain ⟨h1, h0, h2, h3⟩ := h
  have e : wtL ([p].map (·.e)) = wt p.e + 1 := by simp only [List.map_cons, List.map_nil]; rw [wtL, wtL]
  have es : ([p].map (·.atoms)).sum = p.atoms := by simp
  refine ⟨h1, Nat.le_refl _, by rw [es]; exact h0, ?_, fun hs => ?_⟩
  · rw [e]; simp only [List.length_singleton]; omega
  · rw [es] at hs ⊢
    have := h3 hs
    rw [e]; simp only [List.length_singleton]; omega
theorem WL.snoc {ps : List PtD} {p : PtD} {n m : Nat} (h : WL ps n) (hp : Wgh p m) : WL (ps ++ [p]) (n + m) := by
  obtain ⟨a1, a2, a3, a4, a5⟩ := h
  obtain ⟨h1, h0, h2, h3⟩ := hp
  have e : wtL ((ps ++ [p]).map (·.e)) = wtL (ps.map (·.e)) + (wt p.e + 1) := by rw [List.map_append, wtL_app]; simp only [List.map_cons, List.map_nil]; rw [wtL, wtL]
  have es : ((ps ++ [p]).map (·.atoms)).sum = (ps.map (·.atoms)).sum + p.atoms := by rw [List.map_append, List.sum_append]; simp
  have el : (ps ++ [p]).length = ps.length + 1 := by rw [List.length_append]; rfl
  obtain ⟨S, hS⟩ : ∃ S, (ps.map (·.atoms)).sum = S := ⟨_, rfl⟩
  rw [hS] at a3 a5 es
  refine ⟨by omega, by omega, by rw [es]; omega, ?_, fun hs => ?_⟩
  · rw [e, el]; push_cast; omega
  · rw [es] at hs ⊢
    have b1 := a5 (by omega)
    have b2 := h3 (by omega)
    have c1 : 10 * (max S 1) * (n : Int) ≤ 10 * (max (S + p.atoms) 1) * (n : Int) := Int.mul_le_mul_of_nonneg_right (by omega) (by omega)
    have c2 : 10 * (max p.atoms 1) * (m : Int) ≤ 10 * (max (S + p.atoms) 1) * (m : Int) := Int.mul_le_mul_of_nonneg_right (by omega) (by omega)
    have c3 : 10 * (max (S + p.atoms) 1) * ((n + m : Nat) : Int) = 10 * (max (S + p.atoms) 1) * (n : Int) + 10 * (max (S + p.atoms) 1) * (m : Int) := by push_cast; rw [Int.mul_add]
    rw [e, el, c3]
    push_cast
    omega
theorem WL.grow {ps : List PtD} {n m : Nat} (h : WL ps n) (hm : n ≤ m) : WL ps m := by
  obtain ⟨a1, a2, a3, a4, a5⟩ := h
  refine ⟨by omega, a2, a3, by omega, fun hs => ?_⟩
  have h4 : 10 * (max (ps.map (·.atoms)).sum 1) * (n : Int) ≤ 10 * (max (ps.map (·.atoms)).sum 1) * (m : Int) := Int.mul_le_mul_of_nonneg_left (by omega) (by omega)
  have := a5 hs
  omega
theorem wgh_join {ps : List PtD} {n : Nat} (op : Int) (h : WL ps n) : Wgh (joinD op ps) n := by
  have hat := joinD_atoms op ps
  obtain ⟨a1, a2, a3, a4, a5⟩ := h
  match ps, a2, a3, a4, a5, hat with
  | [p], _, a3, a4, a5, hat =>
    have e : wtL ([p].map (·.e)) = wt p.e + 1 := by simp only [List.map_cons, List.map_nil]; rw [wtL, wtL]
    have es : ([p].map (·.atoms)).sum = p.atoms := by simp
    rw [e] at a4 a5
    rw [es] at a3 a5
    simp only [List.length_singleton] at a4 a5
    have hj : joinD op [p] = p := rfl
    rw [hj]
    exact ⟨a1, a3, by omega, fun hs => by have := a5 hs; omega⟩
  | p :: q :: r, _, a3, a4, a5, hat =>
    have hj : (joinD op (p :: q :: r)).e = .mk op [] ((p :: q :: r).map (·.e)) := rfl
    have hw : wt (joinD op (p :: q :: r)).e = wtL ((p :: q :: r).map (·.e)) + 1 := by rw [hj, wt]
    have hl : 2 ≤ (p :: q :: r).length := by simp
    refine ⟨a1, by rw [hat]; exact a3, by rw [hw]; push_cast; omega, fun hs => ?_⟩
    rw [hat] at hs ⊢
    have := a5 hs
    rw [hw]
    push_cast
    omega
/-- What is read weighs so much. -/
def WghR (l : List UInt8) (ex : Nat → Res PtD) : Prop := ∀ i p j, i ≤ l.length → ex i = .ok p j → Wgh p (j - i)
theorem light_atom {l : List UInt8} {f : Nat} {ex : Nat → Res PtD} (hg : f ≠ 0 → GoesE l ex) (h : f ≠ 0 → WghR l ex) : ∀ i p j, i ≤ l.length → atomD f ex l i = .ok p j → LightP p (j - i) := by
  intro i p j hi he
  obtain ⟨hij, _⟩ := goes_atom hg i p j hi he
  unfold atomD at he
  split at he
  · rename_i hc
    have hl := (List.getElem?_eq_some_iff.1 hc).1
    unfold grpD at he
    split at he
    · cases he
    · rename_i hf
      unfold shutD at he
      cases hx : ex (i + 1) with
      | bad e => rw [hx] at he; cases he
      | ok q k =>
        rw [hx] at he
        simp only at he
        split at he
        · cases he
          exact (h hf (i + 1) _ k (by omega) hx).light.grow (by omega)
        · cases he
  split at he
  · cases he
    exact (light_byte _).grow (by omega)
  split at he
  · unfold partS at he
    cases hb : brkD l (i + 1) with
    | bad e => rw [hb] at he; cases he
    | ok t k => rw [hb] at he; cases he; exact (light_byte _).grow (by omega)
  split at he
  · unfold partS at he
    cases hb : escSD l (i + 1) with
    | bad e => rw [hb] at he; cases he
    | ok t k => rw [hb] at he; cases he; exact (light_byte _).grow (by omega)
  · unfold litD at he
    cases hb : l[i]? with
    | none => rw [hb] at he; cases he
    | some c =>
      rw [hb] at he
      simp only at he
      split at he
      · cases he
      · cases he
        exact (light_byte _).grow (by omega)
theorem light_reps {l : List UInt8} : ∀ (k : Nat) (p q : PtD) (i j n : Nat), LightP p n → repsD l k p i = .ok q j → LightP q (n + (j - i))
  | 0, p, q, i, j, n, h, he => by cases he; exact h.grow (by omega)
  | k + 1, p, q, i, j, n, h, he => by
    unfold repsD at he
    cases hr : repD l i with
    | none => rw [hr] at he; cases he; exact h.grow (by omega)
    | some o =>
      rw [hr] at he
      cases o with
      | bad e => cases he
      | ok t j' =>
        simp only at he
        obtain ⟨g1, g2, g3⟩ := repD_goes hr
        have h1 := light_repeat h g3
        have h2 := light_reps k _ q j' j (n + 1) h1 he
        have h3 := goes_reps k _ q j' j g2 h1.2.1 he
        exact h2.grow (by omega)
theorem wgh_piece {l : List UInt8} {f : Nat} {ex : Nat → Res PtD} (hg : f ≠ 0 → GoesE l ex) (h : f ≠ 0 → WghR l ex) : WghR l (epieceD f ex l) := by
  intro i p j hi he
  unfold epieceD at he
  cases ha : atomD f ex l i with
  | bad e => rw [ha] at he; cases he
  | ok q k =>
    rw [ha] at he
    simp only at he
    obtain ⟨h1, h2, h3, h4⟩ := goes_atom hg i q k hi ha
    have hl := light_atom hg h i q k hi ha
    cases hr : repsD l l.length q k with
    | bad e => rw [hr] at he; cases he
    | ok r n =>
      rw [hr] at he
      unfold fewD at he
      simp only at he
      obtain ⟨g1, g2, g3⟩ := goes_reps _ q r k n h2 h3 hr
      split at he
      · cases he
      · rename_i hb
        cases he
        exact ((light_reps _ q _ k _ _ hl hr).grow (by omega)).wgh (by omega)
theorem wl_pieces {l : List UInt8} {pc : Nat → Res PtD} (hg : GoesE l pc) (h : WghR l pc) (i0 : Nat) : ∀ (k : Nat) (ps qs : List PtD) (i j : Nat), i0 ≤ i → i ≤ l.length → WL ps (i - i0) → piecesD pc l k ps i = .ok qs j → WL qs (j - i0)
  | 0, ps, qs, i, j, _, _, hw, he => by cases he; exact hw
  | k + 1, ps, qs, i, j, hi0, hi, hw, he => by
    unfold piecesD at he
    split at he
    · cases hp : pc i with
      | bad e => rw [hp] at he; cases he
      | ok p n =>
        rw [hp] at he
        simp only at he
        obtain ⟨h1, h2, h3, h4⟩ := hg i p n hi hp
        exact wl_pieces hg h i0 k (ps ++ [p]) qs n j (by omega) h2 ((hw.snoc (h i p n hi hp)).grow (by omega)) he
    · cases he; exact hw
theorem wgh_branch {l : List UInt8} {pc : Nat → Res PtD} (hg : GoesE l pc) (h : WghR l pc) : WghR l (branchD pc l) := by
  intro i p j hi he
  unfold branchD at he
  cases ha : pc i with
  | bad e => rw [ha] at he; cases he
  | ok q k =>
    rw [ha] at he
    simp only at he
    obtain ⟨h1, h2, h3, h4⟩ := hg i q k hi ha
    cases hr : piecesD pc l l.length [q] k with
    | bad e => rw [hr] at he; cases he
    | ok r n =>
      rw [hr] at he
      unfold joinR at he
      simp only at he
      cases he
      exact wgh_join 3 (wl_pieces hg h i _ [q] r k _ (by omega) h2 (WL.one (h i q k hi ha)) hr)
theorem wl_branches {l : List UInt8} {br : Nat → Res PtD} (hg : GoesE l br) (h : WghR l br) (i0 : Nat) : ∀ (k : Nat) (ps qs : List PtD) (i j : Nat), i0 ≤ i → i ≤ l.length → WL ps (i - i0) → branchesD br l k ps i = .ok qs j → WL qs (j - i0)
  | 0, ps, qs, i, j, _, _, hw, he => by cases he; exact hw
  | k + 1, ps, qs, i, j, hi0, hi, hw, he => by
    unfold branchesD at he
    split at he
    · rename_i hc
      have hlt := (List.getElem?_eq_some_iff.1 hc).1
      cases hp : br (i + 1) with
      | bad e => rw [hp] at he; cases he
      | ok p n =>
        rw [hp] at he
        simp only at he
        obtain ⟨h1, h2, h3, h4⟩ := hg (i + 1) p n (by omega) hp
        exact wl_branches hg h i0 k (ps ++ [p]) qs n j (by omega) h2 ((hw.snoc (h (i + 1) p n (by omega) hp)).grow (by omega)) he
    · cases he; exact hw
theorem wgh_exprOf {l : List UInt8} {br : Nat → Res PtD} (hg : GoesE l br) (h : WghR l br) : WghR l (exprOf br l) := by
  intro i p j hi he
  unfold exprOf at he
  cases ha : br i with
  | bad e => rw [ha] at he; cases he
  | ok q k =>
    rw [ha] at he
    simp only at he
    obtain ⟨h1, h2, h3, h4⟩ := hg i q k hi ha
    cases hr : branchesD br l l.length [q] k with
    | bad e => rw [hr] at he; cases he
    | ok r n =>
      rw [hr] at he
      unfold joinR at he
      simp only at he
      cases he
      exact wgh_join 4 (wl_branches hg h i _ [q] r k _ (by omega) h2 (WL.one (h i q k hi ha)) hr)
theorem wgh_expr (l : List UInt8) : ∀ f, WghR l (eexprD l f)
  | 0 => wgh_exprOf (goes_branch (goes_piece (fun h => absurd rfl h))) (wgh_branch (goes_piece (fun h => absurd rfl h)) (wgh_piece (fun h => absurd rfl h) (fun h => absurd rfl h)))
  | f + 1 => wgh_exprOf (goes_branch (goes_piece (fun _ => goes_expr l f))) (wgh_branch (goes_piece (fun _ => goes_expr l f)) (wgh_piece (fun _ => goes_expr l f) (fun _ => wgh_expr l f)))
theorem read_wt {l : List UInt8} {p : PtD} {j : Nat} (h : readD l = .ok p j) : wt p.e ≤ 10000000 := by
  unfold readD at h
  split at h
  · cases h
  · rename_i hl
    unfold wholeD at h
    cases he : eexprD l 20 0 with
    | bad e => rw [he] at h; cases h
    | ok q k =>
      rw [he] at h
      simp only at h
      split at h
      · cases h
      · cases h
        have hw := wgh_expr l 20 0 _ _ (Nat.zero_le _) he
        have hg := goes_expr l 20 0 _ _ (Nat.zero_le _) he
        have h1 := hw.2.2.1
        omega
end Go.Proofs.YtdlljlmgoiobpaaGreatDoor
