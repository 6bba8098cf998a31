/- Sets of texts, and graphs that know them. Plain: nothing of the program. -/
namespace Go.Proofs.YtjbdoeoimodhkaaGreatDoor

inductive ExprD where
  | mk (op : Int) (set : List UInt8) (kids : List ExprD)

mutual
/-- A text is in the set that an Expr means. -/
inductive InE : ExprD → List UInt8 → Prop
  | emp (st : List UInt8) (ks : List ExprD) : InE (.mk 1 st ks) []
  | byte (st : List UInt8) (ks : List ExprD) (c : UInt8) (h : c ∈ st) : InE (.mk 2 st ks) [c]
  | row (st : List UInt8) (ks : List ExprD) (s : List UInt8) (h : InRow ks s) : InE (.mk 3 st ks) s
  | choice (st : List UInt8) (ks : List ExprD) (k : ExprD) (s : List UInt8) (hk : k ∈ ks) (h : InE k s) : InE (.mk 4 st ks) s
  | none (st : List UInt8) (ks : List ExprD) : InE (.mk 5 st ks) []
  | again (st : List UInt8) (ks : List ExprD) (k : ExprD) (s t : List UInt8) (hk : k ∈ ks) (h : InE k s) (h2 : InE (.mk 5 st ks) t) : InE (.mk 5 st ks) (s ++ t)
inductive InRow : List ExprD → List UInt8 → Prop
  | nil : InRow [] []
  | cons (k : ExprD) (ks : List ExprD) (s t : List UInt8) (h : InE k s) (h2 : InRow ks t) : InRow (k :: ks) (s ++ t)
end

inductive Lab where
  | eps
  | bytes (st : List UInt8)
  | ex (e : ExprD)
  | row (ks : List ExprD)
/-- What a mark means. -/
def LabIn : Lab → List UInt8 → Prop
  | .eps, s => s = []
  | .bytes st, s => ∃ c ∈ st, s = [c]
  | .ex e, s => InE e s
  | .row ks, s => InRow ks s
structure Edge where
  p : Nat
  l : Lab
  q : Nat
inductive GPath (G : List Edge) : Nat → Nat → List UInt8 → Prop
  | nil (p : Nat) : GPath G p p []
  | step (e : Edge) (q : Nat) (s t : List UInt8) (he : e ∈ G) (hs : LabIn e.l s) (h : GPath G e.q q t) : GPath G e.p q (s ++ t)
theorem GPath.mono {G G' : List Edge} (h : ∀ e ∈ G, e ∈ G') {p q : Nat} {s : List UInt8} (hp : GPath G p q s) : GPath G' p q s := by
  induction hp with
  | nil p => exact .nil p
  | step e q s t he hs _ ih => exact .step e q s t (h e he) hs ih
theorem GPath.trans {G : List Edge} {p q r : Nat} {s t : List UInt8} (h : GPath G p q s) (h2 : GPath G q r t) : GPath G p r (s ++ t) := by
  induction h with
  | nil p => exact h2
  | step e q s u he hs _ ih => rw [List.append_assoc]; exact .step e r s _ he hs (ih h2)
theorem GPath.one {G : List Edge} {e : Edge} {s : List UInt8} (he : e ∈ G) (hs : LabIn e.l s) : GPath G e.p e.q s := by
  have := GPath.step (G := G) e e.q s [] he hs (.nil _)
  simpa using this
/-- Each edge of the one is a path of the other. -/
theorem GPath.by {G G' : List Edge} (h : ∀ e ∈ G, ∀ s, LabIn e.l s → GPath G' e.p e.q s) {p q : Nat} {s : List UInt8} (hp : GPath G p q s) : GPath G' p q s := by
  induction hp with
  | nil p => exact .nil p
  | step e q s t he hs _ ih => exact (h e he s hs).trans ih
/-- An edge is cut into several between the same states. -/
theorem path_union {p q : Nat} {l0 : Lab} {ls : List Lab} {G0 : List Edge} (h : ∀ s, LabIn l0 s ↔ ∃ l ∈ ls, LabIn l s) (a b : Nat) (s : List UInt8) :
    GPath (⟨p, l0, q⟩ :: G0) a b s ↔ GPath (ls.map (fun l => ⟨p, l, q⟩) ++ G0) a b s := by
  constructor
  · refine GPath.by fun e he s hs => ?_
    rw [List.mem_cons] at he
    rcases he with rfl | he
    · obtain ⟨l, hl, hs⟩ := (h s).1 hs
      exact GPath.one (e := ⟨p, l, q⟩) (List.mem_append.2 (.inl (List.mem_map.2 ⟨l, hl, rfl⟩))) hs
    · exact GPath.one (List.mem_append.2 (.inr he)) hs
  · refine GPath.by fun e he s hs => ?_
    rw [List.mem_append] at he
    rcases he with he | he
    · obtain ⟨l, hl, rfl⟩ := List.mem_map.1 he
      exact GPath.one (e := ⟨p, l0, q⟩) (List.mem_cons.2 (.inl rfl)) ((h s).2 ⟨l, hl, hs⟩)
    · exact GPath.one (List.mem_cons.2 (.inr he)) hs
/-- A state that no edge knows. -/
def Fresh (h : Nat) (G : List Edge) : Prop := ∀ e ∈ G, e.p ≠ h ∧ e.q ≠ h
/-- An edge is cut in two by a new state. -/
theorem path_split {p q h : Nat} {l0 l1 l2 : Lab} {G0 : List Edge} (hl : ∀ s, LabIn l0 s ↔ ∃ x y, s = x ++ y ∧ LabIn l1 x ∧ LabIn l2 y) (hf : Fresh h G0) (hp : p ≠ h) (hq : q ≠ h) (a b : Nat) (ha : a ≠ h) (hb : b ≠ h) (s : List UInt8) :
    GPath (⟨p, l0, q⟩ :: G0) a b s ↔ GPath (⟨p, l1, h⟩ :: ⟨h, l2, q⟩ :: G0) a b s := by
  constructor
  · refine GPath.by fun e he s hs => ?_
    rw [List.mem_cons] at he
    rcases he with rfl | he
    · obtain ⟨x, y, rfl, hx, hy⟩ := (hl s).1 hs
      exact (GPath.one (e := ⟨p, l1, h⟩) (by simp) hx).trans (GPath.one (e := ⟨h, l2, q⟩) (by simp) hy)
    · exact GPath.one (by simp [he]) hs
  · intro hpath
    have key : ∀ {x y : Nat} {t : List UInt8}, GPath (⟨p, l1, h⟩ :: ⟨h, l2, q⟩ :: G0) x y t → y = b → (x ≠ h → GPath (⟨p, l0, q⟩ :: G0) x y t) ∧ (x = h → ∃ u v, t = u ++ v ∧ LabIn l2 u ∧ GPath (⟨p, l0, q⟩ :: G0) q y v) := by
      intro x y t hxy
      induction hxy with
      | nil x => intro e; exact ⟨fun _ => .nil x, fun e2 => absurd (e ▸ e2) hb⟩
      | step e y u v he hs _ ih =>
        intro ey
        obtain ⟨ih1, ih2⟩ := ih ey
        rw [List.mem_cons, List.mem_cons] at he
        rcases he with rfl | rfl | he
        · refine ⟨fun _ => ?_, fun e2 => absurd e2 hp⟩
          obtain ⟨u2, v2, rfl, h2, hv⟩ := ih2 rfl
          rw [← List.append_assoc]
          exact GPath.step (⟨p, l0, q⟩ : Edge) y (u ++ u2) v2 (by simp) ((hl _).2 ⟨u, u2, rfl, hs, h2⟩) hv
        · exact ⟨fun e2 => absurd rfl e2, fun _ => ⟨u, v, rfl, hs, ih1 hq⟩⟩
        · obtain ⟨g1, g2⟩ := hf e he
          exact ⟨fun _ => .step e y u v (by simp [he]) hs (ih1 g2), fun e2 => absurd e2 g1⟩
    exact (key hpath rfl).1 ha
/-- Any number of times. -/
inductive Star (ls : List Lab) : List UInt8 → Prop
  | nil : Star ls []
  | cons (l : Lab) (s t : List UInt8) (hl : l ∈ ls) (hs : LabIn l s) (h : Star ls t) : Star ls (s ++ t)
theorem path_hub {p q h : Nat} {l0 : Lab} {ls : List Lab} {G0 : List Edge} (hl : ∀ s, LabIn l0 s ↔ Star ls s) (hf : Fresh h G0) (hp : p ≠ h) (hq : q ≠ h) (a b : Nat) (ha : a ≠ h) (hb : b ≠ h) (s : List UInt8) :
    GPath (⟨p, l0, q⟩ :: G0) a b s ↔ GPath (⟨p, .eps, h⟩ :: ⟨h, .eps, q⟩ :: (ls.map (fun l => ⟨h, l, h⟩) ++ G0)) a b s := by
  constructor
  · refine GPath.by fun e he s hs => ?_
    rw [List.mem_cons] at he
    rcases he with rfl | he
    · have hst := (hl s).1 hs
      have hin : GPath (⟨p, .eps, h⟩ :: ⟨h, .eps, q⟩ :: (ls.map (fun l => ⟨h, l, h⟩) ++ G0)) h h s := by
        clear hs
        induction hst with
        | nil => exact .nil h
        | cons l s t hl2 hs _ ih => exact GPath.step (⟨h, l, h⟩ : Edge) h s t (List.mem_cons.2 (.inr (List.mem_cons.2 (.inr (List.mem_append.2 (.inl (List.mem_map.2 ⟨l, hl2, rfl⟩))))))) hs ih
      have h1 : GPath (⟨p, .eps, h⟩ :: ⟨h, .eps, q⟩ :: (ls.map (fun l => ⟨h, l, h⟩) ++ G0)) p h [] := GPath.one (e := ⟨p, .eps, h⟩) (by simp) rfl
      have h2 : GPath (⟨p, .eps, h⟩ :: ⟨h, .eps, q⟩ :: (ls.map (fun l => ⟨h, l, h⟩) ++ G0)) h q [] := GPath.one (e := ⟨h, .eps, q⟩) (by simp) rfl
      have := (h1.trans hin).trans h2
      simpa using this
    · exact GPath.one (List.mem_cons.2 (.inr (List.mem_cons.2 (.inr (List.mem_append.2 (.inr he)))))) hs
  · intro hpath
    have key : ∀ {x y : Nat} {t : List UInt8}, GPath (⟨p, .eps, h⟩ :: ⟨h, .eps, q⟩ :: (ls.map (fun l => ⟨h, l, h⟩) ++ G0)) x y t → y = b → (x ≠ h → GPath (⟨p, l0, q⟩ :: G0) x y t) ∧ (x = h → ∃ u v, t = u ++ v ∧ Star ls u ∧ GPath (⟨p, l0, q⟩ :: G0) q y v) := by
      intro x y t hxy
      induction hxy with
      | nil x => intro e; exact ⟨fun _ => .nil x, fun e2 => absurd (e ▸ e2) hb⟩
      | step e y u v he hs _ ih =>
        intro ey
        obtain ⟨ih1, ih2⟩ := ih ey
        rw [List.mem_cons, List.mem_cons, List.mem_append] at he
        rcases he with rfl | rfl | he | he
        · refine ⟨fun _ => ?_, fun e2 => absurd e2 hp⟩
          obtain ⟨u2, v2, rfl, h2, hv⟩ := ih2 rfl
          have e0 : u = [] := hs
          subst e0
          exact GPath.step (⟨p, l0, q⟩ : Edge) y u2 v2 (by simp) ((hl _).2 h2) hv
        · have e0 : u = [] := hs
          subst e0
          exact ⟨fun e2 => absurd rfl e2, fun _ => ⟨[], v, rfl, .nil, ih1 hq⟩⟩
        · obtain ⟨l, hl2, rfl⟩ := List.mem_map.1 he
          refine ⟨fun e2 => absurd rfl e2, fun _ => ?_⟩
          obtain ⟨u2, v2, rfl, h2, hv⟩ := ih2 rfl
          exact ⟨u ++ u2, v2, by rw [List.append_assoc], .cons l u u2 hl2 hs h2, hv⟩
        · obtain ⟨g1, g2⟩ := hf e he
          exact ⟨fun _ => .step e y u v (by simp [he]) hs (ih1 g2), fun e2 => absurd e2 g1⟩
    exact (key hpath rfl).1 ha

/-! ### What the Ops' marks mean -/
theorem in1 (st : List UInt8) (ks : List ExprD) (s : List UInt8) : LabIn (.ex (.mk 1 st ks)) s ↔ ∃ l ∈ [Lab.eps], LabIn l s := by
  constructor
  · intro h; cases h; exact ⟨.eps, by simp, rfl⟩
  · rintro ⟨l, hl, hs⟩
    simp at hl; subst hl
    have : s = [] := hs
    subst this
    exact InE.emp st ks
theorem in2 (st : List UInt8) (ks : List ExprD) (s : List UInt8) : LabIn (.ex (.mk 2 st ks)) s ↔ ∃ l ∈ [Lab.bytes st], LabIn l s := by
  constructor
  · intro h; cases h with | byte _ _ c hc => exact ⟨.bytes st, by simp, c, hc, rfl⟩
  · rintro ⟨l, hl, hs⟩
    simp at hl; subst hl
    obtain ⟨c, hc, rfl⟩ := hs
    exact InE.byte st ks c hc
theorem in2_none (ks : List ExprD) (s : List UInt8) : LabIn (.ex (.mk 2 [] ks)) s ↔ ∃ l ∈ ([] : List Lab), LabIn l s := by
  constructor
  · intro h; cases h with | byte _ _ c hc => cases hc
  · rintro ⟨l, hl, _⟩; cases hl
theorem in3 (st : List UInt8) (ks : List ExprD) (s : List UInt8) : LabIn (.ex (.mk 3 st ks)) s ↔ ∃ l ∈ [Lab.row ks], LabIn l s := by
  constructor
  · intro h; cases h with | row _ _ _ h => exact ⟨.row ks, by simp, h⟩
  · rintro ⟨l, hl, hs⟩
    simp at hl; subst hl
    exact InE.row st ks s hs
theorem in4 (st : List UInt8) (ks : List ExprD) (s : List UInt8) : LabIn (.ex (.mk 4 st ks)) s ↔ ∃ l ∈ ks.map Lab.ex, LabIn l s := by
  constructor
  · intro h; cases h with | choice _ _ k _ hk h => exact ⟨.ex k, List.mem_map.2 ⟨k, hk, rfl⟩, h⟩
  · rintro ⟨l, hl, hs⟩
    obtain ⟨k, hk, rfl⟩ := List.mem_map.1 hl
    exact InE.choice st ks k s hk hs
theorem in5 (st : List UInt8) (ks : List ExprD) (s : List UInt8) : LabIn (.ex (.mk 5 st ks)) s ↔ Star (ks.map Lab.ex) s := by
  constructor
  · intro h
    have key : ∀ (e : ExprD) (t : List UInt8), InE e t → ∀ ks, e = .mk 5 st ks → Star (ks.map Lab.ex) t := by
      intro e t h
      refine InE.rec (motive_1 := fun e t _ => ∀ ks, e = .mk 5 st ks → Star (ks.map Lab.ex) t) (motive_2 := fun _ _ _ => True) ?_ ?_ ?_ ?_ ?_ ?_ ?_ ?_ h
      · intro st' ks' ks e; cases e
      · intro st' ks' c h ks e; cases e
      · intro st' ks' s h _ ks e; cases e
      · intro st' ks' k s hk h _ ks e; cases e
      · intro st' ks' ks e; exact .nil
      · intro st' ks' k s t hk h h2 _ ih2 ks e
        cases e
        exact .cons (.ex k) s t (List.mem_map.2 ⟨k, hk, rfl⟩) h (ih2 ks' rfl)
      · trivial
      · intros; trivial
    exact key _ _ h ks rfl
  · intro h
    show InE _ s
    induction h with
    | nil => exact InE.none st ks
    | cons l s t hl hs _ ih =>
      obtain ⟨k, hk, rfl⟩ := List.mem_map.1 hl
      exact InE.again st ks k s t hk hs ih
theorem in_other (op : Int) (st : List UInt8) (ks : List ExprD) (h1 : op ≠ 1) (h2 : op ≠ 2) (h3 : op ≠ 3) (h4 : op ≠ 4) (h5 : op ≠ 5) (s : List UInt8) : LabIn (.ex (.mk op st ks)) s ↔ ∃ l ∈ ([] : List Lab), LabIn l s := by
  constructor
  · intro h
    cases h with
    | emp => exact absurd rfl h1
    | byte => exact absurd rfl h2
    | row => exact absurd rfl h3
    | choice => exact absurd rfl h4
    | none => exact absurd rfl h5
    | again => exact absurd rfl h5
  · rintro ⟨l, hl, _⟩; cases hl
theorem row_nil (s : List UInt8) : LabIn (.row []) s ↔ ∃ l ∈ [Lab.eps], LabIn l s := by
  constructor
  · intro h; cases h; exact ⟨.eps, by simp, rfl⟩
  · rintro ⟨l, hl, hs⟩
    simp at hl; subst hl
    have : s = [] := hs
    subst this
    exact InRow.nil
theorem row_one (k : ExprD) (s : List UInt8) : LabIn (.row [k]) s ↔ ∃ l ∈ [Lab.ex k], LabIn l s := by
  constructor
  · intro h
    cases h with
    | cons _ _ u v h h2 => cases h2; exact ⟨.ex k, by simp, by show InE k (u ++ []); rw [List.append_nil]; exact h⟩
  · rintro ⟨l, hl, hs⟩
    simp at hl; subst hl
    show InRow [k] s
    have := InRow.cons k [] s [] hs .nil
    rwa [List.append_nil] at this
theorem row_cut (k : ExprD) (ks : List ExprD) (s : List UInt8) : LabIn (.row (k :: ks)) s ↔ ∃ x y, s = x ++ y ∧ LabIn (.ex k) x ∧ LabIn (.row ks) y := by
  constructor
  · intro h
    cases h with
    | cons _ _ u v h h2 => exact ⟨u, v, rfl, h, h2⟩
  · rintro ⟨x, y, rfl, hx, hy⟩
    exact InRow.cons k ks x y hx hy

/-! ### Reading a text, byte by byte, in a graph of free ways and bytes alone -/
def Plain (G : List Edge) : Prop := ∀ e ∈ G, e.l = .eps ∨ ∃ st, e.l = .bytes st
inductive EPath (G : List Edge) : Nat → Nat → Prop
  | nil (p : Nat) : EPath G p p
  | step (p q r : Nat) (he : (⟨p, .eps, q⟩ : Edge) ∈ G) (h : EPath G q r) : EPath G p r
theorem EPath.trans {G : List Edge} {p q r : Nat} (h : EPath G p q) (h2 : EPath G q r) : EPath G p r := by
  induction h with
  | nil p => exact h2
  | step p q _ he _ ih => exact .step p q r he (ih h2)
theorem path_eps {G : List Edge} (hG : Plain G) {p q : Nat} : GPath G p q [] ↔ EPath G p q := by
  constructor
  · intro h
    generalize hn : ([] : List UInt8) = s at h
    induction h with
    | nil p => exact .nil p
    | step e q s t he hs _ ih =>
      have h0 := List.append_eq_nil_iff.1 hn.symm
      rcases hG e he with hl | ⟨st, hl⟩
      · have : (⟨e.p, .eps, e.q⟩ : Edge) = e := by cases e; cases hl; rfl
        exact .step e.p e.q q (this ▸ he) (ih h0.2.symm)
      · rw [hl] at hs
        obtain ⟨c, _, hc⟩ := hs
        rw [h0.1] at hc; cases hc
  · intro h
    induction h with
    | nil p => exact .nil p
    | step p q r he _ ih => exact GPath.step (⟨p, .eps, q⟩ : Edge) r [] [] he rfl ih
/-- The last byte. -/
theorem path_last {G : List Edge} (hG : Plain G) {p q : Nat} {s : List UInt8} {c : UInt8} : GPath G p q (s ++ [c]) ↔ ∃ x r st, GPath G p x s ∧ (⟨x, .bytes st, r⟩ : Edge) ∈ G ∧ c ∈ st ∧ EPath G r q := by
  constructor
  · intro h
    generalize e : s ++ [c] = t at h
    induction h generalizing s with
    | nil p => simp at e
    | step ed q u v he hs hv ih =>
      rcases hG ed he with hl | ⟨st, hl⟩
      · rw [hl] at hs
        have : u = [] := hs
        subst this
        obtain ⟨x, r, st, h1, h2, h3, h4⟩ := ih e
        exact ⟨x, r, st, by simpa using GPath.step ed x [] s he (by rw [hl]; rfl) h1, h2, h3, h4⟩
      · have hs' := hs
        rw [hl] at hs
        obtain ⟨d, hd, rfl⟩ := hs
        cases s with
        | nil =>
          simp at e
          obtain ⟨rfl, rfl⟩ := e
          have : (⟨ed.p, .bytes st, ed.q⟩ : Edge) = ed := by cases ed; cases hl; rfl
          exact ⟨ed.p, ed.q, st, .nil _, this ▸ he, hd, (path_eps hG).1 hv⟩
        | cons a s =>
          simp at e
          obtain ⟨rfl, e⟩ := e
          obtain ⟨x, r, st2, h1, h2, h3, h4⟩ := ih e
          exact ⟨x, r, st2, GPath.step ed x [a] s he hs' h1, h2, h3, h4⟩
  · rintro ⟨x, r, st, h1, h2, h3, h4⟩
    have := h1.trans ((GPath.one (e := ⟨x, .bytes st, r⟩) h2 ⟨c, h3, rfl⟩).trans ((path_eps hG).2 h4))
    simpa using this
end Go.Proofs.YtjbdoeoimodhkaaGreatDoor
