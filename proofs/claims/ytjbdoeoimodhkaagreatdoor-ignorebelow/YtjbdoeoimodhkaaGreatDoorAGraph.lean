/- The graph that the builder lays knows the set: step by step. Plain. -/
import Derived.Test.YtjbdoeoimodhkaaGreatDoorALay
import Derived.Test.YtjbdoeoimodhkaaGreatDoorARef
namespace Go.Proofs.YtjbdoeoimodhkaaGreatDoor

theorem GPath.congr {G G' : List Edge} (h : ∀ e, e ∈ G ↔ e ∈ G') {p q : Nat} {s : List UInt8} : GPath G p q s ↔ GPath G' p q s := ⟨GPath.mono (fun e he => (h e).1 he), GPath.mono (fun e he => (h e).2 he)⟩
def edgeT (x : ExprD × Nat × Nat) : Edge := ⟨x.2.1, .ex x.1, x.2.2⟩
def Under (N : Nat) (G : List Edge) : Prop := ∀ e ∈ G, e.p < N ∧ e.q < N
theorem Under.fresh {N h : Nat} {G : List Edge} (hu : Under N G) (hh : N ≤ h) : Fresh h G := fun e he => by have := hu e he; omega
/-- A row's edge, laid. -/
theorem row_paths (q : Nat) : ∀ (ks : List ExprD) (at_ N : Nat) (G0 : List Edge), 0 < ks.length → at_ < N → q < N → Under N G0 → ∀ (a b : Nat), a < N → b < N → ∀ s, GPath (⟨at_, .row ks, q⟩ :: G0) a b s ↔ GPath ((rowT at_ N q ks).map edgeT ++ G0) a b s := by
  intro ks
  induction ks with
  | nil => intro at_ N G0 h; cases h
  | cons k ks ih =>
    intro at_ N G0 _ hat hq hu a b ha hb s
    cases ks with
    | nil =>
      have := path_union (p := at_) (q := q) (G0 := G0) (row_one k) a b s
      exact this
    | cons k2 ks =>
      refine (path_split (h := N) (row_cut k (k2 :: ks)) (hu.fresh (Nat.le_refl _)) (by omega) (by omega) a b (by omega) (by omega) s).trans ?_
      have h1 : GPath (⟨at_, .ex k, N⟩ :: ⟨N, .row (k2 :: ks), q⟩ :: G0) a b s ↔ GPath (⟨N, .row (k2 :: ks), q⟩ :: ⟨at_, .ex k, N⟩ :: G0) a b s := GPath.congr (fun e => by simp only [List.mem_cons]; exact or_left_comm)
      refine h1.trans ?_
      have h2 := ih N (N + 1) (⟨at_, .ex k, N⟩ :: G0) (by simp) (by omega) (by omega) (fun e he => by
        rcases List.mem_cons.1 he with rfl | he
        · exact ⟨by show at_ < _; omega, by show N < _; omega⟩
        · have := hu e he; omega) a b (by omega) (by omega) s
      refine h2.trans (GPath.congr (fun e => ?_))
      simp only [rowT, List.map_cons, List.mem_append, List.mem_cons, List.cons_append, edgeT]
      exact or_left_comm
mutual
def wt : ExprD → Nat
  | .mk _ _ ks => wtL ks + 1
def wtL : List ExprD → Nat
  | [] => 0
  | k :: ks => wt k + 1 + wtL ks
end
theorem wtL_eq (ks : List ExprD) : wtL ks = (ks.map wt).sum + ks.length := by
  induction ks with
  | nil => rfl
  | cons k ks ih => rw [wtL, ih]; simp; omega
theorem wt_pos (e : ExprD) : 1 ≤ wt e := by cases e; rw [wt]; omega
mutual
theorem wt_nodes : ∀ e : ExprD, wt e + 1 = 2 * nodes e
  | .mk _ _ ks => by rw [wt, nodes, wtL_nodes ks]; omega
theorem wtL_nodes : ∀ ks : List ExprD, wtL ks = 2 * nodesL ks
  | [] => by rw [wtL, nodesL]
  | k :: ks => by rw [wtL, nodesL, wtL_nodes ks]; have := wt_nodes k; omega
end
def wS (l : List SpanD) : Nat := (l.map (fun s => wt s.e)).sum
theorem wS_append (a b : List SpanD) : wS (a ++ b) = wS a + wS b := by simp [wS]
theorem wS_one (s : SpanD) : wS [s] = wt s.e := by simp [wS]
theorem wS_tri (sp : List SpanD) : wS sp = ((sp.map tri).map (fun x => wt x.1)).sum := by rw [wS, List.map_map]; rfl
theorem len_wS (l : List SpanD) : l.length ≤ wS l := by
  induction l with
  | nil => simp
  | cons s l ih =>
    have := wt_pos s.e
    simp only [wS, List.map_cons, List.sum_cons, List.length_cons] at ih ⊢
    omega
theorem rowT_wt (q : Nat) : ∀ (ks : List ExprD) (a N : Nat), ((rowT a N q ks).map (fun x => wt x.1)) = ks.map wt := by
  intro ks
  induction ks with
  | nil => intro a N; rfl
  | cons k ks ih =>
    intro a N
    cases ks with
    | nil => rfl
    | cons k2 ks => rw [rowT, List.map_cons, List.map_cons, ih]
theorem rowT_at (q : Nat) : ∀ (ks : List ExprD) (a N M : Nat), a < M → q < M → N + (ks.length - 1) ≤ M → ∀ x ∈ rowT a N q ks, x.2.1 < M ∧ x.2.2 < M := by
  intro ks
  induction ks with
  | nil => intro a N M _ _ _ x hx; cases hx
  | cons k ks ih =>
    intro a N M ha hq hN x hx
    cases ks with
    | nil =>
      simp only [rowT, List.mem_singleton] at hx
      subst hx
      exact ⟨ha, hq⟩
    | cons k2 ks =>
      simp only [rowT, List.mem_cons] at hx
      simp at hN
      rcases hx with rfl | hx
      · exact ⟨ha, by show N < M; omega⟩
      · exact ih N (N + 1) M (by omega) hq (by simp; omega) x (by simpa using hx)

/-- A way's mark. -/
def WLab (K : List (List UInt8)) (d : WayD) (l : Lab) : Prop := (d.by_ = -1 ∧ l = .eps) ∨ ∃ (j : Nat) (t : List UInt8), d.by_ = (j : Int) ∧ K[j]? = some t ∧ l = .bytes t
def edgeS (s : SpanD) : Edge := ⟨s.p, .ex s.e, s.q⟩
structure GInv (D : BData) (e0 : ExprD) (ch : Nat → List WayD) (Gd : List Edge) : Prop where
  two : 2 ≤ D.outs.length
  chain : ∀ k, k < D.outs.length → ∃ o, D.outs[k]? = some o ∧ ChainIs D.ways o (ch k)
  way : ∀ k, k < D.outs.length → ∀ d ∈ ch k, (∃ y : Nat, d.to = (y : Int) ∧ y < D.outs.length) ∧ (d.by_ = -1 ∨ ∃ j : Nat, d.by_ = (j : Int) ∧ j < D.K.length)
  done : ∀ ed : Edge, ed ∈ Gd ↔ ed.p < D.outs.length ∧ ∃ d ∈ ch ed.p, d.to = (ed.q : Int) ∧ WLab D.K d ed.l
  opn : ∀ s ∈ D.opn, s.p < D.outs.length ∧ s.q < D.outs.length
  path : ∀ s, GPath (Gd ++ D.opn.map edgeS) 0 1 s ↔ InE e0 s
  sN : D.outs.length + wS D.opn ≤ 2 + wt e0
  sW : D.ways.length + 2 * wS D.opn ≤ 2 * wt e0
  sK : D.K.length + wS D.opn ≤ wt e0
theorem GInv.under {D : BData} {e0 : ExprD} {ch : Nat → List WayD} {Gd : List Edge} (h : GInv D e0 ch Gd) : Under D.outs.length Gd := by
  intro e he
  obtain ⟨h1, d, hd, hto, _⟩ := (h.done e).1 he
  obtain ⟨y, hy, hlt⟩ := (h.way e.p h1 d hd).1
  exact ⟨h1, by rw [hto] at hy; omega⟩
/-! ### One way more -/
theorem chain_more {ways : List WayD} {i : Int} {l : List WayD} (x : WayD) (h : ChainIs ways i l) : ChainIs (ways ++ [x]) i l := by
  induction h with
  | done => exact .done
  | step i d l hd hlt hlo _ ih => exact .step i d l (by rw [List.getElem?_append_left (List.getElem?_eq_some_iff.1 hd).1]; exact hd) hlt hlo ih
theorem chain_lt {ways : List WayD} {i : Int} {l : List WayD} (h : ChainIs ways i l) : -1 ≤ i ∧ i < (ways.length : Int) := by
  cases h with
  | done => omega
  | step i d l hd => have := (List.getElem?_eq_some_iff.1 hd).1; omega
/-- What is known of states and ways without paths. -/
structure CInv (D : BData) (ch : Nat → List WayD) (Gd : List Edge) : Prop where
  chain : ∀ k, k < D.outs.length → ∃ o, D.outs[k]? = some o ∧ ChainIs D.ways o (ch k)
  way : ∀ k, k < D.outs.length → ∀ d ∈ ch k, (∃ y : Nat, d.to = (y : Int) ∧ y < D.outs.length) ∧ (d.by_ = -1 ∨ ∃ j : Nat, d.by_ = (j : Int) ∧ j < D.K.length)
  done : ∀ ed : Edge, ed ∈ Gd ↔ ed.p < D.outs.length ∧ ∃ d ∈ ch ed.p, d.to = (ed.q : Int) ∧ WLab D.K d ed.l
theorem GInv.c {D : BData} {e0 : ExprD} {ch : Nat → List WayD} {Gd : List Edge} (h : GInv D e0 ch Gd) : CInv D ch Gd := ⟨h.chain, h.way, h.done⟩
theorem CInv.opn {D : BData} {ch : Nat → List WayD} {Gd : List Edge} (h : CInv D ch Gd) (l : List SpanD) : CInv { D with opn := l } ch Gd := ⟨h.chain, h.way, h.done⟩
/-- New states. -/
theorem CInv.grow {D : BData} {ch : Nat → List WayD} {Gd : List Edge} (h : CInv D ch Gd) (m : Nat) : ∃ ch', CInv { D with outs := D.outs ++ List.replicate m (-1) } ch' Gd := by
  refine ⟨fun k => if k < D.outs.length then ch k else [], ⟨fun k hk => ?_, fun k hk d hd => ?_, fun ed => ?_⟩⟩
  · by_cases hlt : k < D.outs.length
    · obtain ⟨o, h1, h2⟩ := h.chain k hlt
      exact ⟨o, by show (D.outs ++ _)[k]? = _; rw [List.getElem?_append_left hlt]; exact h1, by simp only [hlt, if_true]; exact h2⟩
    · refine ⟨-1, ?_, by simp only [hlt, if_false]; exact .done⟩
      show (D.outs ++ List.replicate m (-1))[k]? = some (-1)
      have hk' : k < (D.outs ++ List.replicate m (-1)).length := hk
      rw [List.length_append, List.length_replicate] at hk'
      rw [List.getElem?_append_right (by omega), List.getElem?_replicate, if_pos (by omega)]
  · by_cases hlt : k < D.outs.length
    · simp only [hlt, if_true] at hd
      obtain ⟨⟨y, h1, h2⟩, h3⟩ := h.way k hlt d hd
      exact ⟨⟨y, h1, by show y < (D.outs ++ _).length; rw [List.length_append]; omega⟩, h3⟩
    · simp only [hlt, if_false] at hd; cases hd
  · rw [h.done ed]
    show _ ↔ ed.p < (D.outs ++ List.replicate m (-1)).length ∧ _
    rw [List.length_append, List.length_replicate]
    constructor
    · rintro ⟨h1, h2⟩
      exact ⟨by omega, by simp only [h1, if_true]; exact h2⟩
    · rintro ⟨h1, d, hd, h2⟩
      by_cases hlt : ed.p < D.outs.length
      · simp only [hlt, if_true] at hd; exact ⟨hlt, d, hd, h2⟩
      · simp only [hlt, if_false] at hd; cases hd
theorem CInv.link {D : BData} {ch : Nat → List WayD} {Gd : List Edge} (h : CInv D ch Gd) {p q : Nat} {n o0 : Int} {K' : List (List UInt8)} {svs' : List Value} {l : Lab} (hp : D.outs[p]? = some o0) (hq : q < D.outs.length) (hK : ∀ (i : Nat) (t : List UInt8), D.K[i]? = some t → K'[i]? = some t) (hl : ∀ l', WLab K' ⟨q, n, o0⟩ l' ↔ l' = l) (hn : n = -1 ∨ ∃ j : Nat, n = (j : Int) ∧ j < K'.length) : ∃ ch', CInv { LinkD D p q n o0 with svs := svs', K := K' } ch' (⟨p, l, q⟩ :: Gd) := by
  have hpl := (List.getElem?_eq_some_iff.1 hp).1
  have hKl : D.K.length ≤ K'.length := by
    rcases Nat.lt_or_ge K'.length D.K.length with hlt | hge
    · have h1 := hK K'.length D.K[K'.length] (List.getElem?_eq_getElem hlt)
      have := (List.getElem?_eq_some_iff.1 h1).1
      omega
    · exact hge
  have hlab : ∀ k, k < D.outs.length → ∀ d ∈ ch k, ∀ l', WLab D.K d l' ↔ WLab K' d l' := by
    intro k hk d hd l'
    unfold WLab
    refine or_congr Iff.rfl ?_
    constructor
    · rintro ⟨j, t, h1, h2, h3⟩; exact ⟨j, t, h1, hK j t h2, h3⟩
    · rintro ⟨j, t, h1, h2, h3⟩
      rcases (h.way k hk d hd).2 with e | ⟨j', e, hj'⟩
      · omega
      · have : j = j' := by omega
        subst this
        have h4 := hK j D.K[j] (List.getElem?_eq_getElem hj')
        rw [h2] at h4
        cases h4
        exact ⟨j, _, h1, List.getElem?_eq_getElem hj', h3⟩
  have hol : (D.outs.set p (D.ways.length : Int)).length = D.outs.length := List.length_set
  refine ⟨fun k => if k = p then ⟨q, n, o0⟩ :: ch p else ch k, ⟨fun k hk => ?_, fun k hk d hd => ?_, fun ed => ?_⟩⟩
  · have hk' : k < D.outs.length := by rw [← hol]; exact hk
    by_cases e : k = p
    · subst e
      obtain ⟨o, h1, h2⟩ := h.chain k hk'
      rw [hp] at h1
      cases h1
      refine ⟨(D.ways.length : Int), ?_, ?_⟩
      · show (D.outs.set k _)[k]? = _
        rw [List.getElem?_set_self hk']
      · simp only [if_true]
        have hlt := chain_lt h2
        exact .step D.ways.length ⟨q, n, o0⟩ _ (by simp [LinkD]) hlt.2 hlt.1 (chain_more _ h2)
    · obtain ⟨o, h1, h2⟩ := h.chain k hk'
      refine ⟨o, ?_, by simp only [e, if_false]; exact chain_more _ h2⟩
      show (D.outs.set p _)[k]? = _
      rw [List.getElem?_set_ne (fun e' => e e'.symm)]; exact h1
  · have hk' : k < D.outs.length := by rw [← hol]; exact hk
    have key : ∀ d, d ∈ ch k → (∃ y : Nat, d.to = (y : Int) ∧ y < (D.outs.set p (D.ways.length : Int)).length) ∧ (d.by_ = -1 ∨ ∃ j : Nat, d.by_ = (j : Int) ∧ j < K'.length) := fun d hd => by
      obtain ⟨h1, h2⟩ := h.way k hk' d hd
      rw [hol]
      refine ⟨h1, ?_⟩
      rcases h2 with e | ⟨j, e, hj⟩
      · exact .inl e
      · exact .inr ⟨j, e, by omega⟩
    by_cases e : k = p
    · subst e
      simp only [if_true] at hd
      rcases List.mem_cons.1 hd with rfl | hd
      · exact ⟨⟨q, rfl, by show q < (D.outs.set k _).length; rw [hol]; exact hq⟩, hn⟩
      · exact key d hd
    · simp only [e, if_false] at hd
      exact key d hd
  · show _ ↔ ed.p < (D.outs.set p (D.ways.length : Int)).length ∧ _
    rw [hol, List.mem_cons, h.done ed]
    by_cases e : ed.p = p
    · simp only [e, if_true, List.mem_cons]
      constructor
      · rintro (he | ⟨h1, d, hd, h2, h3⟩)
        · refine ⟨hpl, _, .inl rfl, ?_, (hl _).2 ?_⟩
          · rw [he]
          · rw [he]
        · exact ⟨h1, d, .inr hd, h2, (hlab p hpl d hd _).1 h3⟩
      · rintro ⟨h1, d, hd | hd, h2, h3⟩
        · subst hd
          have h4 := (hl _).1 h3
          refine .inl ?_
          cases ed with
          | mk a b c =>
            have e1 : a = p := e
            have e2 : b = l := h4
            have e3 : q = c := by have h2' : (q : Int) = (c : Int) := h2; omega
            rw [e1, e2, ← e3]
        · exact .inr ⟨h1, d, hd, h2, (hlab p hpl d hd _).2 h3⟩
    · simp only [e, if_false]
      constructor
      · rintro (he | ⟨h1, d, hd, h2, h3⟩)
        · exact absurd (by rw [he]) e
        · exact ⟨h1, d, hd, h2, (hlab _ h1 d hd _).1 h3⟩
      · rintro ⟨h1, d, hd, h2, h3⟩
        exact .inr ⟨h1, d, hd, h2, (hlab _ h1 d hd _).2 h3⟩
end Go.Proofs.YtjbdoeoimodhkaaGreatDoor
