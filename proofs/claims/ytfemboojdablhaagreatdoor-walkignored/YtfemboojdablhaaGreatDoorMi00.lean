/- Merged: APlain, ASet, AGrow. -/
import Derived.Test.YtfemboojdablhaaGreatDoorChecked
import Derived.WalkKit
import Derived.ProofKit
import Derived.Maps.AppendAt
import Derived.Outline
import Derived.BigQuiet
import Derived.Deep.QuietTactic
import Derived.Laws.AppendOwn
import Derived.Laws.OwnMore
import Derived.Laws.Bits64b
import Derived.Laws.BitsLemmas
import Derived.Deep.AppendLies
import Derived.RangeFuncBox
namespace Go.Proofs.YtfemboojdablhaaGreatDoor
inductive ExprD where
  | mk (op : Int) (set : List UInt8) (kids : List ExprD)
mutual
inductive InE : ExprD → List UInt8 → Prop
  | emp (st : List UInt8) (ks : List ExprD) : InE (.mk 1 st ks) []
  | byte (st : List UInt8) (ks : List ExprD) (c : UInt8) (h : c ∈ st) : InE (.mk 2 st ks) [c]
  | row (st : List UInt8) (ks : List ExprD) (s : List UInt8) (h : InRow ks s) : InE (.mk 3 st ks) s
  | choice (st : List UInt8) (ks : List ExprD) (k : ExprD) (s : List UInt8) (hk : k ∈ ks) (h : InE k s) : InE (.mk 4 st ks) s
  | none (st : List UInt8) (ks : List ExprD) : InE (.mk 5 st ks) []
  | again (st : List UInt8) (ks : List ExprD) (k : ExprD) (s t : List UInt8) (hk : k ∈ ks) (h : InE k s) (h2 : InE (.mk 5 st ks) t) : InE (.mk 5 st ks) (s ++ t)
inductive InRow : List ExprD → List UInt8 → Prop
  | nil : InRow [] []
  | cons (k : ExprD) (ks : List ExprD) (s t : List UInt8) (h : InE k s) (h2 : InRow ks t) : InRow (k :: ks) (s ++ t)
end
inductive Lab where
  | eps
  | bytes (st : List UInt8)
  | ex (e : ExprD)
  | row (ks : List ExprD)
def LabIn : Lab → List UInt8 → Prop
  | .eps, s => s = []
  | .bytes st, s => ∃ c ∈ st, s = [c]
  | .ex e, s => InE e s
  | .row ks, s => InRow ks s
structure Edge where
  p : Nat
  l : Lab
  q : Nat
inductive GPath (G : List Edge) : Nat → Nat → List UInt8 → Prop
  | nil (p : Nat) : GPath G p p []
  | step (e : Edge) (q : Nat) (s t : List UInt8) (he : e ∈ G) (hs : LabIn e.l s) (h : GPath G e.q q t) : GPath G e.p q (s ++ t)
theorem GPath.mono {G G' : List Edge} (h : ∀ e ∈ G, e ∈ G') {p q : Nat} {s : List UInt8} (hp : GPath G p q s) : GPath G' p q s := by
  induction hp with
  | nil p => exact .nil p
  | step e q s t he hs _ ih => exact .step e q s t (h e he) hs ih
theorem GPath.trans {G : List Edge} {p q r : Nat} {s t : List UInt8} (h : GPath G p q s) (h2 : GPath G q r t) : GPath G p r (s ++ t) := by
  induction h with
  | nil p => exact h2
  | step e q s u he hs _ ih => rw [List.append_assoc]; exact .step e r s _ he hs (ih h2)
theorem GPath.one {G : List Edge} {e : Edge} {s : List UInt8} (he : e ∈ G) (hs : LabIn e.l s) : GPath G e.p e.q s := by
  have := GPath.step (G := G) e e.q s [] he hs (.nil _)
  simpa using this
theorem GPath.by {G G' : List Edge} (h : ∀ e ∈ G, ∀ s, LabIn e.l s → GPath G' e.p e.q s) {p q : Nat} {s : List UInt8} (hp : GPath G p q s) : GPath G' p q s := by
  induction hp with
  | nil p => exact .nil p
  | step e q s t he hs _ ih => exact (h e he s hs).trans ih
theorem path_union {p q : Nat} {l0 : Lab} {ls : List Lab} {G0 : List Edge} (h : ∀ s, LabIn l0 s ↔ ∃ l ∈ ls, LabIn l s) (a b : Nat) (s : List UInt8) :
    GPath (⟨p, l0, q⟩ :: G0) a b s ↔ GPath (ls.map (fun l => ⟨p, l, q⟩) ++ G0) a b s := by
  constructor
  · refine GPath.by fun e he s hs => ?_
    rw [List.mem_cons] at he
    rcases he with rfl | he
    · obtain ⟨l, hl, hs⟩ := (h s).1 hs
      exact GPath.one (e := ⟨p, l, q⟩) (List.mem_append.2 (.inl (List.mem_map.2 ⟨l, hl, rfl⟩))) hs
    · exact GPath.one (List.mem_append.2 (.inr he)) hs
  · refine GPath.by fun e he s hs => ?_
    rw [List.mem_append] at he
    rcases he with he | he
    · obtain ⟨l, hl, rfl⟩ := List.mem_map.1 he
      exact GPath.one (e := ⟨p, l0, q⟩) (List.mem_cons.2 (.inl rfl)) ((h s).2 ⟨l, hl, hs⟩)
    · exact GPath.one (List.mem_cons.2 (.inr he)) hs
def Fresh (h : Nat) (G : List Edge) : Prop := ∀ e ∈ G, e.p ≠ h ∧ e.q ≠ h
theorem path_split {p q h : Nat} {l0 l1 l2 : Lab} {G0 : List Edge} (hl : ∀ s, LabIn l0 s ↔ ∃ x y, s = x ++ y ∧ LabIn l1 x ∧ LabIn l2 y) (hf : Fresh h G0) (hp : p ≠ h) (hq : q ≠ h) (a b : Nat) (ha : a ≠ h) (hb : b ≠ h) (s : List UInt8) :
    GPath (⟨p, l0, q⟩ :: G0) a b s ↔ GPath (⟨p, l1, h⟩ :: ⟨h, l2, q⟩ :: G0) a b s := by
  constructor
  · refine GPath.by fun e he s hs => ?_
    rw [List.mem_cons] at he
    rcases he with rfl | he
    · obtain ⟨x, y, rfl, hx, hy⟩ := (hl s).1 hs
      exact (GPath.one (e := ⟨p, l1, h⟩) (by simp) hx).trans (GPath.one (e := ⟨h, l2, q⟩) (by simp) hy)
    · exact GPath.one (by simp [he]) hs
  · intro hpath
    have key : ∀ {x y : Nat} {t : List UInt8}, GPath (⟨p, l1, h⟩ :: ⟨h, l2, q⟩ :: G0) x y t → y = b → (x ≠ h → GPath (⟨p, l0, q⟩ :: G0) x y t) ∧ (x = h → ∃ u v, t = u ++ v ∧ LabIn l2 u ∧ GPath (⟨p, l0, q⟩ :: G0) q y v) := by
      intro x y t hxy
      induction hxy with
      | nil x => intro e; exact ⟨fun _ => .nil x, fun e2 => absurd (e ▸ e2) hb⟩
      | step e y u v he hs _ ih =>
        intro ey
        obtain ⟨ih1, ih2⟩ := ih ey
        rw [List.mem_cons, List.mem_cons] at he
        rcases he with rfl | rfl | he
        · refine ⟨fun _ => ?_, fun e2 => absurd e2 hp⟩
          obtain ⟨u2, v2, rfl, h2, hv⟩ := ih2 rfl
          rw [← List.append_assoc]
          exact GPath.step (⟨p, l0, q⟩ : Edge) y (u ++ u2) v2 (by simp) ((hl _).2 ⟨u, u2, rfl, hs, h2⟩) hv
        · exact ⟨fun e2 => absurd rfl e2, fun _ => ⟨u, v, rfl, hs, ih1 hq⟩⟩
        · obtain ⟨g1, g2⟩ := hf e he
          exact ⟨fun _ => .step e y u v (by simp [he]) hs (ih1 g2), fun e2 => absurd e2 g1⟩
    exact (key hpath rfl).1 ha
inductive Star (ls : List Lab) : List UInt8 → Prop
  | nil : Star ls []
  | cons (l : Lab) (s t : List UInt8) (hl : l ∈ ls) (hs : LabIn l s) (h : Star ls t) : Star ls (s ++ t)
theorem path_hub {p q h : Nat} {l0 : Lab} {ls : List Lab} {G0 : List Edge} (hl : ∀ s, LabIn l0 s ↔ Star ls s) (hf : Fresh h G0) (hp : p ≠ h) (hq : q ≠ h) (a b : Nat) (ha : a ≠ h) (hb : b ≠ h) (s : List UInt8) :
    GPath (⟨p, l0, q⟩ :: G0) a b s ↔ GPath (⟨p, .eps, h⟩ :: ⟨h, .eps, q⟩ :: (ls.map (fun l => ⟨h, l, h⟩) ++ G0)) a b s := by
  constructor
  · refine GPath.by fun e he s hs => ?_
    rw [List.mem_cons] at he
    rcases he with rfl | he
    · have hst := (hl s).1 hs
      have hin : GPath (⟨p, .eps, h⟩ :: ⟨h, .eps, q⟩ :: (ls.map (fun l => ⟨h, l, h⟩) ++ G0)) h h s := by
        clear hs
        induction hst with
        | nil => exact .nil h
        | cons l s t hl2 hs _ ih => exact GPath.step (⟨h, l, h⟩ : Edge) h s t (List.mem_cons.2 (.inr (List.mem_cons.2 (.inr (List.mem_append.2 (.inl (List.mem_map.2 ⟨l, hl2, rfl⟩))))))) hs ih
      have h1 : GPath (⟨p, .eps, h⟩ :: ⟨h, .eps, q⟩ :: (ls.map (fun l => ⟨h, l, h⟩) ++ G0)) p h [] := GPath.one (e := ⟨p, .eps, h⟩) (by simp) rfl
      have h2 : GPath (⟨p, .eps, h⟩ :: ⟨h, .eps, q⟩ :: (ls.map (fun l => ⟨h, l, h⟩) ++ G0)) h q [] := GPath.one (e := ⟨h, .eps, q⟩) (by simp) rfl
      have := (h1.trans hin).trans h2
      simpa using this
    · exact GPath.one (List.mem_cons.2 (.inr (List.mem_cons.2 (.inr (List.mem_append.2 (.inr he)))))) hs
  · intro hpath
    have key : ∀ {x y : Nat} {t : List UInt8}, GPath (⟨p, .eps, h⟩ :: ⟨h, .eps, q⟩ :: (ls.map (fun l => ⟨h, l, h⟩) ++ G0)) x y t → y = b → (x ≠ h → GPath (⟨p, l0, q⟩ :: G0) x y t) ∧ (x = h → ∃ u v, t = u ++ v ∧ Star ls u ∧ GPath (⟨p, l0, q⟩ :: G0) q y v) := by
      intro x y t hxy
      induction hxy with
      | nil x => intro e; exact ⟨fun _ => .nil x, fun e2 => absurd (e ▸ e2) hb⟩
      | step e y u v he hs _ ih =>
        intro ey
        obtain ⟨ih1, ih2⟩ := ih ey
        rw [List.mem_cons, List.mem_cons, List.mem_append] at he
        rcases he with rfl | rfl | he | he
        · refine ⟨fun _ => ?_, fun e2 => absurd e2 hp⟩
          obtain ⟨u2, v2, rfl, h2, hv⟩ := ih2 rfl
          have e0 : u = [] := hs
          subst e0
          exact GPath.step (⟨p, l0, q⟩ : Edge) y u2 v2 (by simp) ((hl _).2 h2) hv
        · have e0 : u = [] := hs
          subst e0
          exact ⟨fun e2 => absurd rfl e2, fun _ => ⟨[], v, rfl, .nil, ih1 hq⟩⟩
        · obtain ⟨l, hl2, rfl⟩ := List.mem_map.1 he
          refine ⟨fun e2 => absurd rfl e2, fun _ => ?_⟩
          obtain ⟨u2, v2, rfl, h2, hv⟩ := ih2 rfl
          exact ⟨u ++ u2, v2, by rw [List.append_assoc], .cons l u u2 hl2 hs h2, hv⟩
        · obtain ⟨g1, g2⟩ := hf e he
          exact ⟨fun _ => .step e y u v (by simp [he]) hs (ih1 g2), fun e2 => absurd e2 g1⟩
    exact (key hpath rfl).1 ha
theorem in1 (st : List UInt8) (ks : List ExprD) (s : List UInt8) : LabIn (.ex (.mk 1 st ks)) s ↔ ∃ l ∈ [Lab.eps], LabIn l s := by
  constructor
  · intro h; cases h; exact ⟨.eps, by simp, rfl⟩
  · rintro ⟨l, hl, hs⟩
    simp at hl; subst hl
    have : s = [] := hs
    subst this
    exact InE.emp st ks
theorem in2 (st : List UInt8) (ks : List ExprD) (s : List UInt8) : LabIn (.ex (.mk 2 st ks)) s ↔ ∃ l ∈ [Lab.bytes st], LabIn l s := by
  constructor
  · intro h; cases h with | byte _ _ c hc => exact ⟨.bytes st, by simp, c, hc, rfl⟩
  · rintro ⟨l, hl, hs⟩
    simp at hl; subst hl
    obtain ⟨c, hc, rfl⟩ := hs
    exact InE.byte st ks c hc
theorem in2_none (ks : List ExprD) (s : List UInt8) : LabIn (.ex (.mk 2 [] ks)) s ↔ ∃ l ∈ ([] : List Lab), LabIn l s := by
  constructor
  · intro h; cases h with | byte _ _ c hc => cases hc
  · rintro ⟨l, hl, _⟩; cases hl
theorem in3 (st : List UInt8) (ks : List ExprD) (s : List UInt8) : LabIn (.ex (.mk 3 st ks)) s ↔ ∃ l ∈ [Lab.row ks], LabIn l s := by
  constructor
  · intro h; cases h with | row _ _ _ h => exact ⟨.row ks, by simp, h⟩
  · rintro ⟨l, hl, hs⟩
    simp at hl; subst hl
    exact InE.row st ks s hs
theorem in4 (st : List UInt8) (ks : List ExprD) (s : List UInt8) : LabIn (.ex (.mk 4 st ks)) s ↔ ∃ l ∈ ks.map Lab.ex, LabIn l s := by
  constructor
  · intro h; cases h with | choice _ _ k _ hk h => exact ⟨.ex k, List.mem_map.2 ⟨k, hk, rfl⟩, h⟩
  · rintro ⟨l, hl, hs⟩
    obtain ⟨k, hk, rfl⟩ := List.mem_map.1 hl
    exact InE.choice st ks k s hk hs
theorem in5 (st : List UInt8) (ks : List ExprD) (s : List UInt8) : LabIn (.ex (.mk 5 st ks)) s ↔ Star (ks.map Lab.ex) s := by
  constructor
  · intro h
    have key : ∀ (e : ExprD) (t : List UInt8), InE e t → ∀ ks, e = .mk 5 st ks → Star (ks.map Lab.ex) t := by
      intro e t h
      refine InE.rec (motive_1 := fun e t _ => ∀ ks, e = .mk 5 st ks → Star (ks.map Lab.ex) t) (motive_2 := fun _ _ _ => True) ?_ ?_ ?_ ?_ ?_ ?_ ?_ ?_ h
      · intro st' ks' ks e; cases e
      · intro st' ks' c h ks e; cases e
      · intro st' ks' s h _ ks e; cases e
      · intro st' ks' k s hk h _ ks e; cases e
      · intro st' ks' ks e; exact .nil
      · intro st' ks' k s t hk h h2 _ ih2 ks e
        cases e
        exact .cons (.ex k) s t (List.mem_map.2 ⟨k, hk, rfl⟩) h (ih2 ks' rfl)
      · trivial
      · intros; trivial
    exact key _ _ h ks rfl
  · intro h
    show InE _ s
    induction h with
    | nil => exact InE.none st ks
    | cons l s t hl hs _ ih =>
      obtain ⟨k, hk, rfl⟩ := List.mem_map.1 hl
      exact InE.again st ks k s t hk hs ih
theorem in_other (op : Int) (st : List UInt8) (ks : List ExprD) (h1 : op ≠ 1) (h2 : op ≠ 2) (h3 : op ≠ 3) (h4 : op ≠ 4) (h5 : op ≠ 5) (s : List UInt8) : LabIn (.ex (.mk op st ks)) s ↔ ∃ l ∈ ([] : List Lab), LabIn l s := by
  constructor
  · intro h
    cases h with
    | emp => exact absurd rfl h1
    | byte => exact absurd rfl h2
    | row => exact absurd rfl h3
    | choice => exact absurd rfl h4
    | none => exact absurd rfl h5
    | again => exact absurd rfl h5
  · rintro ⟨l, hl, _⟩; cases hl
theorem row_nil (s : List UInt8) : LabIn (.row []) s ↔ ∃ l ∈ [Lab.eps], LabIn l s := by
  constructor
  · intro h; cases h; exact ⟨.eps, by simp, rfl⟩
  · rintro ⟨l, hl, hs⟩
    simp at hl; subst hl
    have : s = [] := hs
    subst this
    exact InRow.nil
theorem row_one (k : ExprD) (s : List UInt8) : LabIn (.row [k]) s ↔ ∃ l ∈ [Lab.ex k], LabIn l s := by
  constructor
  · intro h
    cases h with
    | cons _ _ u v h h2 => cases h2; exact ⟨.ex k, by simp, by show InE k (u ++ []); rw [List.append_nil]; exact h⟩
  · rintro ⟨l, hl, hs⟩
    simp at hl; subst hl
    show InRow [k] s
    have := InRow.cons k [] s [] hs .nil
    rwa [List.append_nil] at this
theorem row_cut (k : ExprD) (ks : List ExprD) (s : List UInt8) : LabIn (.row (k :: ks)) s ↔ ∃ x y, s = x ++ y ∧ LabIn (.ex k) x ∧ LabIn (.row ks) y := by
  constructor
  · intro h
    cases h with
    | cons _ _ u v h h2 => exact ⟨u, v, rfl, h, h2⟩
  · rintro ⟨x, y, rfl, hx, hy⟩
    exact InRow.cons k ks x y hx hy
def Plain (G : List Edge) : Prop := ∀ e ∈ G, e.l = .eps ∨ ∃ st, e.l = .bytes st
inductive EPath (G : List Edge) : Nat → Nat → Prop
  | nil (p : Nat) : EPath G p p
  | step (p q r : Nat) (he : (⟨p, .eps, q⟩ : Edge) ∈ G) (h : EPath G q r) : EPath G p r
theorem EPath.trans {G : List Edge} {p q r : Nat} (h : EPath G p q) (h2 : EPath G q r) : EPath G p r := by
  induction h with
  | nil p => exact h2
  | step p q _ he _ ih => exact .step p q r he (ih h2)
theorem path_eps {G : List Edge} (hG : Plain G) {p q : Nat} : GPath G p q [] ↔ EPath G p q := by
  constructor
  · intro h
    generalize hn : ([] : List UInt8) = s at h
    induction h with
    | nil p => exact .nil p
    | step e q s t he hs _ ih =>
      have h0 := List.append_eq_nil_iff.1 hn.symm
      rcases hG e he with hl | ⟨st, hl⟩
      · have : (⟨e.p, .eps, e.q⟩ : Edge) = e := by cases e; cases hl; rfl
        exact .step e.p e.q q (this ▸ he) (ih h0.2.symm)
      · rw [hl] at hs
        obtain ⟨c, _, hc⟩ := hs
        rw [h0.1] at hc; cases hc
  · intro h
    induction h with
    | nil p => exact .nil p
    | step p q r he _ ih => exact GPath.step (⟨p, .eps, q⟩ : Edge) r [] [] he rfl ih
theorem path_last {G : List Edge} (hG : Plain G) {p q : Nat} {s : List UInt8} {c : UInt8} : GPath G p q (s ++ [c]) ↔ ∃ x r st, GPath G p x s ∧ (⟨x, .bytes st, r⟩ : Edge) ∈ G ∧ c ∈ st ∧ EPath G r q := by
  constructor
  · intro h
    generalize e : s ++ [c] = t at h
    induction h generalizing s with
    | nil p => simp at e
    | step ed q u v he hs hv ih =>
      rcases hG ed he with hl | ⟨st, hl⟩
      · rw [hl] at hs
        have : u = [] := hs
        subst this
        obtain ⟨x, r, st, h1, h2, h3, h4⟩ := ih e
        exact ⟨x, r, st, by simpa using GPath.step ed x [] s he (by rw [hl]; rfl) h1, h2, h3, h4⟩
      · have hs' := hs
        rw [hl] at hs
        obtain ⟨d, hd, rfl⟩ := hs
        cases s with
        | nil =>
          simp at e
          obtain ⟨rfl, rfl⟩ := e
          have : (⟨ed.p, .bytes st, ed.q⟩ : Edge) = ed := by cases ed; cases hl; rfl
          exact ⟨ed.p, ed.q, st, .nil _, this ▸ he, hd, (path_eps hG).1 hv⟩
        | cons a s =>
          simp at e
          obtain ⟨rfl, e⟩ := e
          obtain ⟨x, r, st2, h1, h2, h3, h4⟩ := ih e
          exact ⟨x, r, st2, GPath.step ed x [a] s he hs' h1, h2, h3, h4⟩
  · rintro ⟨x, r, st, h1, h2, h3, h4⟩
    have := h1.trans ((GPath.one (e := ⟨x, .bytes st, r⟩) h2 ⟨c, h3, rfl⟩).trans ((path_eps hG).2 h4))
    simpa using this
end Go.Proofs.YtfemboojdablhaaGreatDoor
namespace Go.Proofs.YtfemboojdablhaaGreatDoor
open Go.RowKit
theorem hide {p : Prop} (h : p) : Hid p := h
theorem unhide {p : Prop} (h : Hid p) : p := h
def u64s (ws : List Nat) : List Value := ws.map fun (x : Nat) => Value.int .u64 (x : Int)
theorem wraps_i64_62 (n : Int) (h₀ : 0 ≤ n) (h₁ : n < 2 ^ 62) : IntKind.i64.wrap n = n := by rw [IntKind.wrap_i64]; omega
theorem and63 (k : Nat) (hk : k ≤ 1000000000) : bits .and .i64 (k : Int) 63 = ((k % 64 : Nat) : Int) := by
  have h := bits_mask .i64 62 (by decide) wraps_i64_62 6 (by decide) (k : Int) (by omega) (by omega)
  have e : ((2 : Int) ^ 6 - 1) = 63 := by decide
  have e2 : ((2 : Int) ^ 6) = 64 := by decide
  rw [e, e2] at h
  rw [h]
  omega
theorem bit_is (x m : Nat) : (((x / 2 ^ m) &&& 1 : Nat) != 0) = x.testBit m := by
  rw [Nat.testBit, Nat.shiftRight_eq_div_pow, Nat.and_comm]
theorem pow_lt {m : Nat} (h : m < 64) : 2 ^ m < 18446744073709551616 := by
  have : (2 : Nat) ^ m < 2 ^ 64 := Nat.pow_lt_pow_right (by decide) h
  omega
theorem shr_word (x m : Nat) (hm : m < 64) : (x : Int) / 2 ^ min m 64 = ((x / 2 ^ m : Nat) : Int) := by
  rw [Nat.min_eq_left (by omega)]
  simp
theorem shl_word (m : Nat) (hm : m < 64) : IntKind.u64.wrap ((2 : Int) ^ min m 64) = ((2 ^ m : Nat) : Int) := by
  rw [Nat.min_eq_left (by omega), IntKind.wrap_u64]
  have hp := pow_lt hm
  have : ((2 : Int) ^ m) = ((2 ^ m : Nat) : Int) := by simp
  rw [this]
  generalize (2 : Nat) ^ m = q at hp ⊢
  omega
theorem has_word (x m : Nat) (hx : x < 18446744073709551616) (hm : m < 64) : (bits .and .u64 ((x : Int) / 2 ^ min m 64) 1 != 0) = x.testBit m := by
  rw [shr_word x m hm, show (1 : Int) = ((1 : Nat) : Int) from rfl, bits_and_u64_nat _ 1 (Nat.lt_of_le_of_lt (Nat.div_le_self _ _) hx) (by omega), ← bit_is, Bool.eq_iff_iff, bne_iff_ne, bne_iff_ne]
  omega
theorem or_word (x m : Nat) (hx : x < 18446744073709551616) (hm : m < 64) : bits .or .u64 (x : Int) (IntKind.u64.wrap ((2 : Int) ^ min m 64)) = ((x ||| 2 ^ m : Nat) : Int) := by
  rw [shl_word m hm, bits_or_u64_nat _ _ hx (pow_lt hm)]
set_option maxRecDepth 100000 in
set_option maxHeartbeats 400000 in
theorem has_cell (n c k x g : Nat) (w : World) (hk : k / 64 < n) (hkb : k ≤ 1000000000) (hx : w.cell? ⟨g, k / 64, none⟩ = some (.int .u64 (x : Int))) (hxb : x < 18446744073709551616) :
    Calls Tryz.prog 211 #[.slice (some ⟨g, 0, none⟩) n c, .int .i64 (k : Int)] w fun e w' => e = .returned (.bool (x.testBit (k % 64))) ∧ w' = w := by
  have h1 := and63 k hkb
  have HB := hide (has_word x (k % 64) hxb (by omega))
  obtain ⟨m, hm⟩ : ∃ m, k % 64 = m := ⟨_, rfl⟩
  rw [hm] at h1 HB ⊢
  clear hm
  go_enter Tryz.func211, Tryz.ntmps211
  go_wp2
  go_ret
  refine ⟨?_, rfl⟩
  show Ending.returned (.bool (bits .and .u64 ((x : Int) / 2 ^ min m 64) 1 != 0)) = _
  rw [HB.out]
set_option maxRecDepth 100000 in
set_option maxHeartbeats 400000 in
theorem add_cell (n c k x g : Nat) (w : World) (hk : k / 64 < n) (hkb : k ≤ 1000000000) (hx : w.cell? ⟨g, k / 64, none⟩ = some (.int .u64 (x : Int))) (hfz : w.frozen? ⟨g, k / 64, none⟩ = false) (hxb : x < 18446744073709551616) :
    Calls Tryz.prog 239 #[.slice (some ⟨g, 0, none⟩) n c, .int .i64 (k : Int)] w fun e w' => e = .returned (.tuple #[]) ∧ ∃ q, w' = (w.setCell ⟨g, k / 64, none⟩ (.int .u64 ((x ||| 2 ^ (k % 64) : Nat) : Int))).drewN q := by
  have h1 := and63 k hkb
  have HB := hide (or_word x (k % 64) hxb (by omega))
  obtain ⟨m, hm⟩ : ∃ m, k % 64 = m := ⟨_, rfl⟩
  rw [hm] at h1 HB ⊢
  clear hm
  go_enter Tryz.func239, Tryz.ntmps239
  go_wp2
  go_region
  first | refine bodyPost_ret (results_none rfl _ _ _) rfl ?_ | refine bodyPost_end (results_none rfl _ _ _) rfl ?_
  refine ⟨rfl, 1, ?_⟩
  rw [← HB.out]
  rfl
def inS (ws : List Nat) (k : Nat) : Bool := (ws.getD (k / 64) 0).testBit (k % 64)
def addS (ws : List Nat) (k : Nat) : List Nat := ws.set (k / 64) (ws.getD (k / 64) 0 ||| 2 ^ (k % 64))
theorem addS_length (ws : List Nat) (k : Nat) : (addS ws k).length = ws.length := List.length_set
theorem pow_bit (m j : Nat) : (2 ^ m).testBit j = decide (m = j) := Nat.testBit_two_pow
theorem inS_add {ws : List Nat} {k : Nat} (hk : k / 64 < ws.length) (j : Nat) : inS (addS ws k) j = (inS ws j || decide (k = j)) := by
  unfold inS addS
  by_cases h : k / 64 = j / 64
  · have e : (ws.set (k / 64) (ws.getD (k / 64) 0 ||| 2 ^ (k % 64))).getD (j / 64) 0 = ws.getD (k / 64) 0 ||| 2 ^ (k % 64) := by
      rw [← h, List.getD_eq_getElem?_getD, List.getElem?_set_self hk]
      rfl
    rw [e, Nat.testBit_or, pow_bit, h]
    congr 1
    rw [decide_eq_decide]
    omega
  · have e : (ws.set (k / 64) (ws.getD (k / 64) 0 ||| 2 ^ (k % 64))).getD (j / 64) 0 = ws.getD (j / 64) 0 := by
      rw [List.getD_eq_getElem?_getD, List.getElem?_set_ne h, ← List.getD_eq_getElem?_getD]
    have e2 : decide (k = j) = false := decide_eq_false (fun e => h (by rw [e]))
    rw [e, e2, Bool.or_false]
theorem inS_none (n j : Nat) : inS (List.replicate n 0) j = false := by
  unfold inS
  have : (List.replicate n 0).getD (j / 64) 0 = 0 := by
    rw [List.getD_eq_getElem?_getD, List.getElem?_replicate]
    split <;> rfl
  rw [this, Nat.zero_testBit]
structure SetRow (B : Nat) (W : World) (v : Value) (ws : List Nat) : Prop where
  own : W.ownsRow B 205 1 v ws.length (u64s ws)
  lim : ∀ x ∈ ws, x < 18446744073709551616
theorem getD_lim {ws : List Nat} (h : ∀ x ∈ ws, x < 18446744073709551616) (i : Nat) : ws.getD i 0 < 18446744073709551616 := by
  rw [List.getD_eq_getElem?_getD]
  cases e : ws[i]? with
  | none => show 0 < _; omega
  | some x => exact h x (List.mem_of_getElem? e)
theorem SetRow.cell {B g m cap : Nat} {W : World} {ws : List Nat} (h : SetRow B W (.slice (some ⟨g, 0, none⟩) m cap) ws) {i : Nat} (hi : i < ws.length) : W.cell? ⟨g, i, none⟩ = some (.int .u64 ((ws.getD i 0 : Nat) : Int)) := by
  rcases h.own.2 with ⟨e, _⟩ | ⟨g', cap', cur, e, _, hg, hn, _, hs, ht⟩
  · cases e
  · cases e
    have e1 : (cur.toList.take (ws.length * 1))[i]? = some (.int .u64 ((ws.getD i 0 : Nat) : Int)) := by
      rw [ht]
      unfold u64s
      rw [List.getElem?_map, List.getElem?_eq_getElem hi, List.getD_eq_getElem?_getD, List.getElem?_eq_getElem hi]
      rfl
    rw [List.getElem?_take_of_lt (by omega)] at e1
    simp only [World.cell?, hg]
    simpa using e1
theorem own_set98 {B t size n m g cap i : Nat} {W : World} {xs : List Value} (h : W.ownsRow B t size (.slice (some ⟨g, 0, none⟩) m cap) n xs) (u : Value) : (W.setCell ⟨g, i, none⟩ u).ownsRow B t size (.slice (some ⟨g, 0, none⟩) m cap) n (xs.set i u) := by
  refine ⟨by rw [List.length_set]; exact h.1, ?_⟩
  rcases h.2 with ⟨e, _⟩ | ⟨g', cap', cur, e, hb, hg, hn, hm, hs, ht⟩
  · cases e
  · cases e
    obtain ⟨hlt, hk⟩ := Array.getElem?_eq_some_iff.1 hg
    refine .inr ⟨g, cap, cur.setIfInBounds i u, rfl, hb, ?_, hn, hm, by simpa using hs, ?_⟩
    · show (W.heap.modify g _)[g]? = _
      rw [Array.getElem?_eq_getElem (by rw [Array.size_modify]; exact hlt), Array.getElem_modify_self, hk]
      rfl
    · rw [Array.toList_setIfInBounds, List.take_set, ht]
theorem own_frozen {B t size n m g cap : Nat} {W : World} {xs : List Value} (h : W.ownsRow B t size (.slice (some ⟨g, 0, none⟩) m cap) n xs) (i : Nat) : W.frozen? ⟨g, i, none⟩ = false := by
  rcases h.2 with ⟨e, _⟩ | ⟨g', cap', cur, e, hb, hg, _⟩
  · cases e
  · cases e
    simp [World.frozen?, hg]
theorem SetRow.form {B : Nat} {W : World} {v : Value} {ws : List Nat} (h : SetRow B W v ws) (hp : 0 < ws.length) : ∃ g cap, v = .slice (some ⟨g, 0, none⟩) ws.length cap ∧ B ≤ g ∧ g < W.heap.size := by
  rcases h.own.2 with ⟨_, e⟩ | ⟨g, cap, cur, e, hb, hg, _⟩
  · omega
  · exact ⟨g, cap, e, hb, (Array.getElem?_eq_some_iff.1 hg).1⟩
theorem has_any {B : Nat} {v : Value} {ws : List Nat} (k : Nat) (w : World) (h : SetRow B w v ws) (hk : k / 64 < ws.length) (hkb : k ≤ 1000000000) :
    Calls Tryz.prog 211 #[v, .int .i64 (k : Int)] w fun e w' => e = .returned (.bool (inS ws k)) ∧ w' = w := by
  obtain ⟨g, cap, rfl, _⟩ := h.form (by omega)
  exact has_cell ws.length cap k (ws.getD (k / 64) 0) g w hk hkb (h.cell hk) (getD_lim h.lim _)
theorem set_grown (w : World) (g i : Nat) (u : Value) : w.grownBy (w.setCell ⟨g, i, none⟩ u) (some g) := by
  refine ⟨rfl, rfl, rfl, ?_, fun k hk hne => ?_⟩
  · show w.heap.size ≤ (w.heap.modify g _).size
    rw [Array.size_modify]; exact Nat.le_refl _
  · show (w.heap.modify g _)[k]? = _
    rw [Array.getElem?_modify, if_neg (fun e => hne (by rw [e]))]
theorem u64s_set (ws : List Nat) (i x : Nat) : (u64s ws).set i (.int .u64 (x : Int)) = u64s (ws.set i x) := by
  unfold u64s
  rw [List.map_set]
theorem add_any {B : Nat} {v : Value} {ws : List Nat} (k : Nat) (w : World) (h : SetRow B w v ws) (hk : k / 64 < ws.length) (hkb : k ≤ 1000000000) :
    Calls Tryz.prog 239 #[v, .int .i64 (k : Int)] w fun e w' => e = .returned (.tuple #[]) ∧ SetRow B w' v (addS ws k) ∧ w'.heap.size = w.heap.size ∧ w.grownBy w' v.ownBlock := by
  obtain ⟨g, cap, rfl, hB, hg⟩ := h.form (by omega)
  refine (add_cell ws.length cap k (ws.getD (k / 64) 0) g w hk hkb (h.cell hk) (own_frozen h.own _) (getD_lim h.lim _)).mono ?_
  rintro e w' ⟨rfl, q, rfl⟩
  refine ⟨rfl, ⟨?_, ?_⟩, ?_, ?_⟩
  · rw [addS_length]
    have := own_set98 (i := k / 64) h.own (.int .u64 ((ws.getD (k / 64) 0 ||| 2 ^ (k % 64) : Nat) : Int))
    rw [u64s_set] at this
    exact this
  · intro x hx
    rcases List.mem_or_eq_of_mem_set hx with hx | rfl
    · exact h.lim x hx
    · have h1 := getD_lim h.lim (k / 64)
      have h2 := pow_lt (m := k % 64) (by omega)
      have : ws.getD (k / 64) 0 ||| 2 ^ (k % 64) < 2 ^ 64 := Nat.or_lt_two_pow (by omega) (by omega)
      omega
  · show (w.heap.modify g _).size = _
    rw [Array.size_modify]
  · have hh := set_grown w g (k / 64) (Value.int .u64 ((ws.getD (k / 64) 0 ||| 2 ^ (k % 64) : Nat) : Int))
    exact ⟨hh.os, hh.tape, hh.output, hh.size, hh.block⟩
theorem Tryz.info205 : (Tryz.prog.info? 205).map (fun i => (i.zero, i.size, i.bytes)) = some (some (.int .u64 0), 1, 8) := by kernel_rfl
theorem Tryz.underlying246' : Tryz.prog.underlying 246 = some (.slice 205) := by kernel_rfl
def words (n : Nat) : Nat := (n + 63) / 64
theorem made_zero (n : Nat) : (madeCells (Value.int .u64 0).cells (n * 1)).toList = u64s (List.replicate n 0) := by
  apply List.ext_getElem?
  intro i
  unfold u64s
  rw [List.map_replicate, List.getElem?_replicate]
  show (madeCells #[Value.int .u64 0] (n * 1)).toList[i]? = _
  unfold madeCells
  rw [Nat.mul_one, Array.toList_map, List.getElem?_map, Array.toList_range]
  by_cases hi : i < n
  · rw [List.getElem?_range hi, if_pos hi]
    show some ((#[Value.int IntKind.u64 0] : Array Value)[i % 1]!) = _
    rw [Nat.mod_one]
    rfl
  · rw [List.getElem?_eq_none (by simp; omega), if_neg hi]
    rfl
set_option maxRecDepth 100000 in
set_option maxHeartbeats 400000 in
theorem newSet_any (n : Nat) (w : World) (hn : n ≤ 1000000) :
    Calls Tryz.prog 206 #[.int .i64 (n : Int)] w fun e w' => ∃ v, e = .returned v ∧ SetRow w.heap.size w' v (List.replicate (words n) 0) ∧ Below w.heap.size w w' := by
  obtain ⟨i0, hi, hz0, hz1, hz2⟩ := info_parts Tryz.info205
  obtain ⟨W, hmk, hown, hgr⟩ := run_makeSlice_full (P := Tryz.prog) (w := w) w.heap.size 246 205 i0 (.int .u64 0) 1 Tryz.underlying246' hi hz0 hz1 .i64 .i64 (words n) (by unfold words; omega) (by rw [hz2]; unfold words; omega) (by unfold words maxLen; omega) (Nat.le_refl _)
  have hN : ((n : Int) + 63) / 64 = ((words n : Nat) : Int) := by unfold words; omega
  have HOWN := hide hown
  have HGR := hide hgr
  obtain ⟨N, hNN⟩ : ∃ N, words n = N := ⟨_, rfl⟩
  rw [hNN] at hmk hN HOWN ⊢
  clear hown hgr hNN
  go_enter Tryz.func206, Tryz.ntmps206
  go_wp2
  go_ret
  refine ⟨_, rfl, ⟨?_, fun x hx => ?_⟩, ?_⟩
  · rw [List.length_replicate, ← made_zero]; exact HOWN.out
  · rw [List.mem_replicate] at hx; omega
  · have := HGR.out; exact ⟨this.os, this.tape, this.output, this.size, fun k hk => this.block k hk (fun e => by cases e)⟩
end Go.Proofs.YtfemboojdablhaaGreatDoor
namespace Go.Proofs.YtfemboojdablhaaGreatDoor
open Go.RowKit
theorem Tryz.info3 : (Tryz.prog.info? 3).map (fun i => (i.zero, i.size, i.bytes)) = some (some (.int .i64 0), 1, 8) := by kernel_rfl
def BBox (W : World) (b : Nat) (ov wv yv : Value) (st en : Int) (pv kv : Value) : Prop := W.heap[b]? = some (.cells #[ov, wv, yv, .int .i64 st, .int .i64 en, pv, kv] 281)
theorem BBox.cells {W : World} {b : Nat} {ov wv yv : Value} {st en : Int} {pv kv : Value} (h : BBox W b ov wv yv st en pv kv) :
    W.cell? ⟨b, 0, none⟩ = some ov ∧ W.cell? ⟨b, 1, none⟩ = some wv ∧ W.cell? ⟨b, 2, none⟩ = some yv ∧ W.cell? ⟨b, 3, none⟩ = some (.int .i64 st) ∧ W.cell? ⟨b, 4, none⟩ = some (.int .i64 en) ∧ W.cell? ⟨b, 5, none⟩ = some pv ∧ W.cell? ⟨b, 6, none⟩ = some kv ∧ ∀ j, W.frozen? ⟨b, j, none⟩ = false := by
  unfold BBox at h
  simp [World.cell?, World.frozen?, h]
def i64s (xs : List Int) : List Value := xs.map fun (x : Int) => Value.int .i64 x
structure Grow2 (w w' : World) (p q : Option Nat) : Prop where
  os : w'.os = w.os
  tape : w'.tape = w.tape
  output : w'.output = w.output
  size : w.heap.size ≤ w'.heap.size
  block : ∀ k, k < w.heap.size → some k ≠ p → some k ≠ q → w'.heap[k]? = w.heap[k]?
theorem own_not_box {B t size n b : Nat} {W : World} {v : Value} {xs : List Value} {t' : TypeId} {cur' : Array Value} (ho : W.ownsRow B t size v n xs) (hb : W.heap[b]? = some (.cells cur' t')) (hne : t ≠ t') : v.ownBlock ≠ some b := by
  intro e
  rcases ho.2 with ⟨rfl, _⟩ | ⟨g, cap, cur, rfl, _, hg, _⟩
  · cases e
  · simp only [Value.ownBlock, Option.some.injEq] at e
    subst e
    rw [hb] at hg
    cases hg
    exact hne rfl
theorem i64s_push {B : Nat} {w1 : World} {v' : Value} {xs : List Int} {x : Int} (h : w1.ownsRow B 3 1 v' (xs.length + 1) (i64s xs ++ [Value.int .i64 x])) :
    w1.ownsRow B 3 1 v' (xs ++ [x]).length (i64s (xs ++ [x])) := by
  unfold i64s at h ⊢
  rw [List.length_append, List.map_append]; exact h
theorem BBox.set {W : World} {b : Nat} {ov wv yv : Value} {st en : Int} {pv kv : Value} (h : BBox W b ov wv yv st en pv kv) (u : Value) : BBox (W.setCell ⟨b, 0, none⟩ u) b u wv yv st en pv kv := by
  obtain ⟨hlt, hk⟩ := Array.getElem?_eq_some_iff.1 h
  show (W.heap.modify b _)[b]? = _
  rw [Array.getElem?_eq_getElem (by rw [Array.size_modify]; exact hlt), Array.getElem_modify_self, hk]
  rfl
def GrowPost (B b : Nat) (ov wv yv : Value) (st en : Int) (pv kv : Value) (outs : List Int) (w : World) (e : Ending) (w' : World) : Prop :=
  e = .returned (.int .i64 (outs.length : Int)) ∧ ∃ ov', BBox w' b ov' wv yv st en pv kv ∧ w'.ownsRow B 3 1 ov' (outs ++ [-1]).length (i64s (outs ++ [-1])) ∧ Grow2 w w' (some b) ov.ownBlock
set_option maxRecDepth 100000 in
set_option maxHeartbeats 1000000 in
theorem grow_any (B b : Nat) (ov wv yv : Value) (st en : Int) (pv kv : Value) (outs : List Int) (w : World) (hbox : BBox w b ov wv yv st en pv kv) (hown : w.ownsRow B 3 1 ov outs.length (i64s outs)) (hl : outs.length ≤ 1000000000) (hB : B ≤ w.heap.size) :
    Calls Tryz.prog 198 #[.pointer (some ⟨b, 0, none⟩)] w (GrowPost B b ov wv yv st en pv kv outs w) := by
  obtain ⟨i0, hi, hz0, hz1, hz2⟩ := info_parts Tryz.info3
  obtain ⟨c0, _, _, _, _, _, _, _⟩ := hbox.cells
  have hblt : b < w.heap.size := (Array.getElem?_eq_some_iff.1 hbox).1
  have hnb := own_not_box hown hbox (by decide)
  have HBX := hide hbox
  clear hbox
  go_enter Tryz.func198, Tryz.ntmps198
  go_wp2_with (at_builtin; refine wpList_append_own _ rfl _ _ 40 rfl B 3 i0 (.int .i64 0) 1 8 Tryz.underlying40 hi hz0 hz1 hz2 rfl (by decide) _ _ _ rfl (hown.alloc _) ⟨w.heap.size, 0, none⟩ 1 1 [.int .i64 (-1)] rfl rfl (cell_one_new _ _ _) (by simp [Value.oneCell']) (by unfold maxLen; omega) (by omega) (by simp; omega) ?_)
  intro v' w1 hown' hgrow _
  obtain ⟨g', cap', rfl⟩ := ownsRow_succ hown'
  have hbx1 : BBox w1 b ov wv yv st en pv kv := (hgrow.block b (by simp; omega) (fun e => hnb e.symm)).trans ((((Below.refl w.heap.size w).alloc (Nat.le_refl _) _).block b hblt).trans HBX.out)
  obtain ⟨d0, _, _, _, _, _, _, df⟩ := hbx1.cells
  have f0 := df 0
  have HOWN := hide hown'
  have HGR := hide hgrow
  have HBX1 := hide hbx1
  clear df hown' hgrow hbx1 hown c0
  go_wp2
  go_ret
  refine ⟨rfl, _, HBX1.out.set _, ?_, ?_⟩
  · refine i64s_push (x := -1) ?_
    exact ownsRow_setCell_other HOWN.out (a := ⟨b, 0, none⟩) (own_not_box HOWN.out HBX1.out (by decide)) _
  · have h1 := HGR.out
    have hal : Below w.heap.size w (w.alloc (.cells #[.int .i64 (-1)] 3)) := (Below.refl _ _).alloc (Nat.le_refl _) _
    have h2 := set_grown w1 b 0 (Value.slice (some ⟨g', 0, none⟩) (outs.length + 1) cap')
    refine ⟨h2.os.trans (h1.os.trans hal.os), h2.tape.trans (h1.tape.trans hal.tape), h2.output.trans (h1.output.trans hal.output), Nat.le_trans hal.size (Nat.le_trans h1.size h2.size), fun k hk hp hq => ?_⟩
    have hk1 : k < (w.alloc (.cells #[.int .i64 (-1)] 3)).heap.size := Nat.lt_of_lt_of_le hk hal.size
    exact (h2.block k (Nat.lt_of_lt_of_le hk1 h1.size) hp).trans ((h1.block k hk1 hq).trans (hal.block k hk))
end Go.Proofs.YtfemboojdablhaaGreatDoor
