/- Merged: AGraph, AGraphB. -/
import Derived.Test.YtfemboojdablhaaGreatDoorMi06
namespace Go.Proofs.YtfemboojdablhaaGreatDoor
theorem GPath.congr {G G' : List Edge} (h : ∀ e, e ∈ G ↔ e ∈ G') {p q : Nat} {s : List UInt8} : GPath G p q s ↔ GPath G' p q s := ⟨GPath.mono (fun e he => (h e).1 he), GPath.mono (fun e he => (h e).2 he)⟩
def edgeT (x : ExprD × Nat × Nat) : Edge := ⟨x.2.1, .ex x.1, x.2.2⟩
def Under (N : Nat) (G : List Edge) : Prop := ∀ e ∈ G, e.p < N ∧ e.q < N
theorem Under.fresh {N h : Nat} {G : List Edge} (hu : Under N G) (hh : N ≤ h) : Fresh h G := fun e he => by have := hu e he; omega
theorem row_paths (q : Nat) : ∀ (ks : List ExprD) (at_ N : Nat) (G0 : List Edge), 0 < ks.length → at_ < N → q < N → Under N G0 → ∀ (a b : Nat), a < N → b < N → ∀ s, GPath (⟨at_, .row ks, q⟩ :: G0) a b s ↔ GPath ((rowT at_ N q ks).map edgeT ++ G0) a b s := by
  intro ks
  induction ks with
  | nil => intro at_ N G0 h; cases h
  | cons k ks ih =>
    intro at_ N G0 _ hat hq hu a b ha hb s
    cases ks with
    | nil =>
      have := path_union (p := at_) (q := q) (G0 := G0) (row_one k) a b s
      exact this
    | cons k2 ks =>
      refine (path_split (h := N) (row_cut k (k2 :: ks)) (hu.fresh (Nat.le_refl _)) (by omega) (by omega) a b (by omega) (by omega) s).trans ?_
      have h1 : GPath (⟨at_, .ex k, N⟩ :: ⟨N, .row (k2 :: ks), q⟩ :: G0) a b s ↔ GPath (⟨N, .row (k2 :: ks), q⟩ :: ⟨at_, .ex k, N⟩ :: G0) a b s := GPath.congr (fun e => by simp only [List.mem_cons]; exact or_left_comm)
      refine h1.trans ?_
      have h2 := ih N (N + 1) (⟨at_, .ex k, N⟩ :: G0) (by simp) (by omega) (by omega) (fun e he => by
        rcases List.mem_cons.1 he with rfl | he
        · exact ⟨by show at_ < _; omega, by show N < _; omega⟩
        · have := hu e he; omega) a b (by omega) (by omega) s
      refine h2.trans (GPath.congr (fun e => ?_))
      simp only [rowT, List.map_cons, List.mem_append, List.mem_cons, List.cons_append, edgeT]
      exact or_left_comm
mutual
def wt : ExprD → Nat
  | .mk _ _ ks => wtL ks + 1
def wtL : List ExprD → Nat
  | [] => 0
  | k :: ks => wt k + 1 + wtL ks
end
theorem wtL_eq (ks : List ExprD) : wtL ks = (ks.map wt).sum + ks.length := by
  induction ks with
  | nil => rfl
  | cons k ks ih => rw [wtL, ih]; simp; omega
theorem wt_pos (e : ExprD) : 1 ≤ wt e := by cases e; rw [wt]; omega
def wS (l : List SpanD) : Nat := (l.map (fun s => wt s.e)).sum
theorem wS_append (a b : List SpanD) : wS (a ++ b) = wS a + wS b := by simp [wS]
theorem wS_one (s : SpanD) : wS [s] = wt s.e := by simp [wS]
theorem wS_tri (sp : List SpanD) : wS sp = ((sp.map tri).map (fun x => wt x.1)).sum := by rw [wS, List.map_map]; rfl
theorem len_wS (l : List SpanD) : l.length ≤ wS l := by
  induction l with
  | nil => simp
  | cons s l ih =>
    have := wt_pos s.e
    simp only [wS, List.map_cons, List.sum_cons, List.length_cons] at ih ⊢
    omega
theorem rowT_wt (q : Nat) : ∀ (ks : List ExprD) (a N : Nat), ((rowT a N q ks).map (fun x => wt x.1)) = ks.map wt := by
  intro ks
  induction ks with
  | nil => intro a N; rfl
  | cons k ks ih =>
    intro a N
    cases ks with
    | nil => rfl
    | cons k2 ks => rw [rowT, List.map_cons, List.map_cons, ih]
theorem rowT_at (q : Nat) : ∀ (ks : List ExprD) (a N M : Nat), a < M → q < M → N + (ks.length - 1) ≤ M → ∀ x ∈ rowT a N q ks, x.2.1 < M ∧ x.2.2 < M := by
  intro ks
  induction ks with
  | nil => intro a N M _ _ _ x hx; cases hx
  | cons k ks ih =>
    intro a N M ha hq hN x hx
    cases ks with
    | nil =>
      simp only [rowT, List.mem_singleton] at hx
      subst hx
      exact ⟨ha, hq⟩
    | cons k2 ks =>
      simp only [rowT, List.mem_cons] at hx
      simp at hN
      rcases hx with rfl | hx
      · exact ⟨ha, by show N < M; omega⟩
      · exact ih N (N + 1) M (by omega) hq (by simp; omega) x (by simpa using hx)
def WLab (K : List (List UInt8)) (d : WayD) (l : Lab) : Prop := (d.by_ = -1 ∧ l = .eps) ∨ ∃ (j : Nat) (t : List UInt8), d.by_ = (j : Int) ∧ K[j]? = some t ∧ l = .bytes t
def edgeS (s : SpanD) : Edge := ⟨s.p, .ex s.e, s.q⟩
structure GInv (D : BData) (e0 : ExprD) (ch : Nat → List WayD) (Gd : List Edge) : Prop where
  two : 2 ≤ D.outs.length
  chain : ∀ k, k < D.outs.length → ∃ o, D.outs[k]? = some o ∧ ChainIs D.ways o (ch k)
  way : ∀ k, k < D.outs.length → ∀ d ∈ ch k, (∃ y : Nat, d.to = (y : Int) ∧ y < D.outs.length) ∧ (d.by_ = -1 ∨ ∃ j : Nat, d.by_ = (j : Int) ∧ j < D.K.length)
  done : ∀ ed : Edge, ed ∈ Gd ↔ ed.p < D.outs.length ∧ ∃ d ∈ ch ed.p, d.to = (ed.q : Int) ∧ WLab D.K d ed.l
  opn : ∀ s ∈ D.opn, s.p < D.outs.length ∧ s.q < D.outs.length
  path : ∀ s, GPath (Gd ++ D.opn.map edgeS) 0 1 s ↔ InE e0 s
  sN : D.outs.length + wS D.opn ≤ 2 + wt e0
  sW : D.ways.length + 2 * wS D.opn ≤ 2 * wt e0
  sK : D.K.length + wS D.opn ≤ wt e0
theorem GInv.under {D : BData} {e0 : ExprD} {ch : Nat → List WayD} {Gd : List Edge} (h : GInv D e0 ch Gd) : Under D.outs.length Gd := by
  intro e he
  obtain ⟨h1, d, hd, hto, _⟩ := (h.done e).1 he
  obtain ⟨y, hy, hlt⟩ := (h.way e.p h1 d hd).1
  exact ⟨h1, by rw [hto] at hy; omega⟩
theorem chain_more {ways : List WayD} {i : Int} {l : List WayD} (x : WayD) (h : ChainIs ways i l) : ChainIs (ways ++ [x]) i l := by
  induction h with
  | done => exact .done
  | step i d l hd hlt hlo _ ih => exact .step i d l (by rw [List.getElem?_append_left (List.getElem?_eq_some_iff.1 hd).1]; exact hd) hlt hlo ih
theorem chain_lt {ways : List WayD} {i : Int} {l : List WayD} (h : ChainIs ways i l) : -1 ≤ i ∧ i < (ways.length : Int) := by
  cases h with
  | done => omega
  | step i d l hd => have := (List.getElem?_eq_some_iff.1 hd).1; omega
structure CInv (D : BData) (ch : Nat → List WayD) (Gd : List Edge) : Prop where
  chain : ∀ k, k < D.outs.length → ∃ o, D.outs[k]? = some o ∧ ChainIs D.ways o (ch k)
  way : ∀ k, k < D.outs.length → ∀ d ∈ ch k, (∃ y : Nat, d.to = (y : Int) ∧ y < D.outs.length) ∧ (d.by_ = -1 ∨ ∃ j : Nat, d.by_ = (j : Int) ∧ j < D.K.length)
  done : ∀ ed : Edge, ed ∈ Gd ↔ ed.p < D.outs.length ∧ ∃ d ∈ ch ed.p, d.to = (ed.q : Int) ∧ WLab D.K d ed.l
theorem GInv.c {D : BData} {e0 : ExprD} {ch : Nat → List WayD} {Gd : List Edge} (h : GInv D e0 ch Gd) : CInv D ch Gd := ⟨h.chain, h.way, h.done⟩
theorem CInv.opn {D : BData} {ch : Nat → List WayD} {Gd : List Edge} (h : CInv D ch Gd) (l : List SpanD) : CInv { D with opn := l } ch Gd := ⟨h.chain, h.way, h.done⟩
theorem CInv.grow {D : BData} {ch : Nat → List WayD} {Gd : List Edge} (h : CInv D ch Gd) (m : Nat) : ∃ ch', CInv { D with outs := D.outs ++ List.replicate m (-1) } ch' Gd := by
  refine ⟨fun k => if k < D.outs.length then ch k else [], ⟨fun k hk => ?_, fun k hk d hd => ?_, fun ed => ?_⟩⟩
  · by_cases hlt : k < D.outs.length
    · obtain ⟨o, h1, h2⟩ := h.chain k hlt
      exact ⟨o, by show (D.outs ++ _)[k]? = _; rw [List.getElem?_append_left hlt]; exact h1, by simp only [hlt, if_true]; exact h2⟩
    · refine ⟨-1, ?_, by simp only [hlt, if_false]; exact .done⟩
      show (D.outs ++ List.replicate m (-1))[k]? = some (-1)
      have hk' : k < (D.outs ++ List.replicate m (-1)).length := hk
      rw [List.length_append, List.length_replicate] at hk'
      rw [List.getElem?_append_right (by omega), List.getElem?_replicate, if_pos (by omega)]
  · by_cases hlt : k < D.outs.length
    · simp only [hlt, if_true] at hd
      obtain ⟨⟨y, h1, h2⟩, h3⟩ := h.way k hlt d hd
      exact ⟨⟨y, h1, by show y < (D.outs ++ _).length; rw [List.length_append]; omega⟩, h3⟩
    · simp only [hlt, if_false] at hd; cases hd
  · rw [h.done ed]
    show _ ↔ ed.p < (D.outs ++ List.replicate m (-1)).length ∧ _
    rw [List.length_append, List.length_replicate]
    constructor
    · rintro ⟨h1, h2⟩
      exact ⟨by omega, by simp only [h1, if_true]; exact h2⟩
    · rintro ⟨h1, d, hd, h2⟩
      by_cases hlt : ed.p < D.outs.length
      · simp only [hlt, if_true] at hd; exact ⟨hlt, d, hd, h2⟩
      · simp only [hlt, if_false] at hd; cases hd
theorem CInv.link {D : BData} {ch : Nat → List WayD} {Gd : List Edge} (h : CInv D ch Gd) {p q : Nat} {n o0 : Int} {K' : List (List UInt8)} {svs' : List Value} {l : Lab} (hp : D.outs[p]? = some o0) (hq : q < D.outs.length) (hK : ∀ (i : Nat) (t : List UInt8), D.K[i]? = some t → K'[i]? = some t) (hl : ∀ l', WLab K' ⟨q, n, o0⟩ l' ↔ l' = l) (hn : n = -1 ∨ ∃ j : Nat, n = (j : Int) ∧ j < K'.length) : ∃ ch', CInv { LinkD D p q n o0 with svs := svs', K := K' } ch' (⟨p, l, q⟩ :: Gd) := by
  have hpl := (List.getElem?_eq_some_iff.1 hp).1
  have hKl : D.K.length ≤ K'.length := by
    rcases Nat.lt_or_ge K'.length D.K.length with hlt | hge
    · have h1 := hK K'.length D.K[K'.length] (List.getElem?_eq_getElem hlt)
      have := (List.getElem?_eq_some_iff.1 h1).1
      omega
    · exact hge
  have hlab : ∀ k, k < D.outs.length → ∀ d ∈ ch k, ∀ l', WLab D.K d l' ↔ WLab K' d l' := by
    intro k hk d hd l'
    unfold WLab
    refine or_congr Iff.rfl ?_
    constructor
    · rintro ⟨j, t, h1, h2, h3⟩; exact ⟨j, t, h1, hK j t h2, h3⟩
    · rintro ⟨j, t, h1, h2, h3⟩
      rcases (h.way k hk d hd).2 with e | ⟨j', e, hj'⟩
      · omega
      · have : j = j' := by omega
        subst this
        have h4 := hK j D.K[j] (List.getElem?_eq_getElem hj')
        rw [h2] at h4
        cases h4
        exact ⟨j, _, h1, List.getElem?_eq_getElem hj', h3⟩
  have hol : (D.outs.set p (D.ways.length : Int)).length = D.outs.length := List.length_set
  refine ⟨fun k => if k = p then ⟨q, n, o0⟩ :: ch p else ch k, ⟨fun k hk => ?_, fun k hk d hd => ?_, fun ed => ?_⟩⟩
  · have hk' : k < D.outs.length := by rw [← hol]; exact hk
    by_cases e : k = p
    · subst e
      obtain ⟨o, h1, h2⟩ := h.chain k hk'
      rw [hp] at h1
      cases h1
      refine ⟨(D.ways.length : Int), ?_, ?_⟩
      · show (D.outs.set k _)[k]? = _
        rw [List.getElem?_set_self hk']
      · simp only [if_true]
        have hlt := chain_lt h2
        exact .step D.ways.length ⟨q, n, o0⟩ _ (by simp [LinkD]) hlt.2 hlt.1 (chain_more _ h2)
    · obtain ⟨o, h1, h2⟩ := h.chain k hk'
      refine ⟨o, ?_, by simp only [e, if_false]; exact chain_more _ h2⟩
      show (D.outs.set p _)[k]? = _
      rw [List.getElem?_set_ne (fun e' => e e'.symm)]; exact h1
  · have hk' : k < D.outs.length := by rw [← hol]; exact hk
    have key : ∀ d, d ∈ ch k → (∃ y : Nat, d.to = (y : Int) ∧ y < (D.outs.set p (D.ways.length : Int)).length) ∧ (d.by_ = -1 ∨ ∃ j : Nat, d.by_ = (j : Int) ∧ j < K'.length) := fun d hd => by
      obtain ⟨h1, h2⟩ := h.way k hk' d hd
      rw [hol]
      refine ⟨h1, ?_⟩
      rcases h2 with e | ⟨j, e, hj⟩
      · exact .inl e
      · exact .inr ⟨j, e, by omega⟩
    by_cases e : k = p
    · subst e
      simp only [if_true] at hd
      rcases List.mem_cons.1 hd with rfl | hd
      · exact ⟨⟨q, rfl, by show q < (D.outs.set k _).length; rw [hol]; exact hq⟩, hn⟩
      · exact key d hd
    · simp only [e, if_false] at hd
      exact key d hd
  · show _ ↔ ed.p < (D.outs.set p (D.ways.length : Int)).length ∧ _
    rw [hol, List.mem_cons, h.done ed]
    by_cases e : ed.p = p
    · simp only [e, if_true, List.mem_cons]
      constructor
      · rintro (he | ⟨h1, d, hd, h2, h3⟩)
        · refine ⟨hpl, _, .inl rfl, ?_, (hl _).2 ?_⟩
          · rw [he]
          · rw [he]
        · exact ⟨h1, d, .inr hd, h2, (hlab p hpl d hd _).1 h3⟩
      · rintro ⟨h1, d, hd | hd, h2, h3⟩
        · subst hd
          have h4 := (hl _).1 h3
          refine .inl ?_
          cases ed with
          | mk a b c =>
            have e1 : a = p := e
            have e2 : b = l := h4
            have e3 : q = c := by have h2' : (q : Int) = (c : Int) := h2; omega
            rw [e1, e2, ← e3]
        · exact .inr ⟨h1, d, hd, h2, (hlab p hpl d hd _).2 h3⟩
    · simp only [e, if_false]
      constructor
      · rintro (he | ⟨h1, d, hd, h2, h3⟩)
        · exact absurd (by rw [he]) e
        · exact ⟨h1, d, hd, h2, (hlab _ h1 d hd _).1 h3⟩
      · rintro ⟨h1, d, hd, h2, h3⟩
        exact .inr ⟨h1, d, hd, h2, (hlab _ h1 d hd _).2 h3⟩
end Go.Proofs.YtfemboojdablhaaGreatDoor
namespace Go.Proofs.YtfemboojdablhaaGreatDoor
theorem or3 (a b c : Prop) : a ∨ b ∨ c ↔ c ∨ a ∨ b := by
  constructor
  · rintro (h | h | h)
    · exact .inr (.inl h)
    · exact .inr (.inr h)
    · exact .inl h
  · rintro (h | h | h)
    · exact .inr (.inr h)
    · exact .inl h
    · exact .inr (.inl h)
theorem or5 (x y a b c : Prop) : x ∨ y ∨ a ∨ b ∨ c ↔ y ∨ x ∨ c ∨ a ∨ b := by
  rw [or3 a b c]
  exact or_left_comm
theorem wlab_eps (K : List (List UInt8)) (q o0 : Int) (l' : Lab) : WLab K ⟨q, -1, o0⟩ l' ↔ l' = .eps := by
  constructor
  · rintro (⟨_, h⟩ | ⟨j, t, h, _⟩)
    · exact h
    · have : (-1 : Int) = (j : Int) := h; omega
  · intro h; exact .inl ⟨rfl, h⟩
theorem wlab_byte {K : List (List UInt8)} {n : Nat} {t : List UInt8} (hn : K[n]? = some t) (q o0 : Int) (l' : Lab) : WLab K ⟨q, (n : Int), o0⟩ l' ↔ l' = .bytes t := by
  constructor
  · rintro (⟨h, _⟩ | ⟨j, t', h, hj, h2⟩)
    · have : (n : Int) = -1 := h; omega
    · have : (n : Int) = (j : Int) := h
      have : n = j := by omega
      subst this
      rw [hn] at hj
      cases hj
      exact h2
  · intro h; exact .inr ⟨n, t, rfl, hn, h⟩
theorem edges_tri {sp : List SpanD} {xs : List (ExprD × Nat × Nat)} (h : sp.map tri = xs) : sp.map edgeS = xs.map edgeT := by
  rw [← h, List.map_map]; rfl
theorem sp_of {sp : List SpanD} {xs : List (ExprD × Nat × Nat)} (h : sp.map tri = xs) {s : SpanD} (hs : s ∈ sp) : tri s ∈ xs := by rw [← h]; exact List.mem_map.2 ⟨s, hs, rfl⟩
theorem lay_inv {B : Nat} {W : World} {D D' : BData} {s : SpanD} {e0 : ExprD} {ch : Nat → List WayD} {Gd : List Edge} {op : Int} {tx : List UInt8} {ks : List ExprD} (h : GInv { D with opn := D.opn ++ [s] } e0 ch Gd) (he : s.e = .mk op tx ks) (hl : LayD B W D op tx ks s.p s.q D') : ∃ ch' Gd', GInv D' e0 ch' Gd' ∧ wS D'.opn < wS (D.opn ++ [s]) := by
  have hpq := h.opn s (by simp)
  have hN : 2 ≤ D.outs.length := h.two
  have hp : s.p < D.outs.length := hpq.1
  have hq : s.q < D.outs.length := hpq.2
  have hopn : ∀ x ∈ D.opn, x.p < D.outs.length ∧ x.q < D.outs.length := fun x hx => h.opn x (by simp [hx])
  have hc : CInv D ch Gd := h.c.opn D.opn
  have sN := h.sN
  have sW := h.sW
  have sK := h.sK
  have hu : Under D.outs.length (Gd ++ D.opn.map edgeS) := by
    intro e he
    rcases List.mem_append.1 he with he | he
    · exact h.under e he
    · obtain ⟨x, hx, rfl⟩ := List.mem_map.1 he
      exact hopn x hx
  have hpath : ∀ t, GPath (⟨s.p, .ex (.mk op tx ks), s.q⟩ :: (Gd ++ D.opn.map edgeS)) 0 1 t ↔ InE e0 t := fun t => by
    refine (GPath.congr (fun e => ?_)).trans (h.path t)
    show _ ↔ e ∈ Gd ++ (D.opn ++ [s]).map edgeS
    rw [List.map_append, List.map_singleton, ← List.append_assoc, List.mem_append, List.mem_singleton, List.mem_cons]
    unfold edgeS
    rw [he]
    exact or_comm
  have hw : wt s.e = wtL ks + 1 := by rw [he, wt]
  have hwl := wtL_eq ks
  dsimp only at sN sW sK
  rw [wS_append, wS_one, hw] at sN sW sK ⊢
  clear h
  cases hl with
  | free o0 hop ho =>
    obtain ⟨ch', hc'⟩ := hc.link (n := -1) (K' := D.K) (svs' := D.svs) ho hq (fun i t h => h) (wlab_eps D.K _ _) (.inl rfl)
    have hin : ∀ t, LabIn (.ex (.mk op tx ks)) t ↔ ∃ l ∈ [Lab.eps], LabIn l t := by
      rcases hop with rfl | ⟨rfl, rfl⟩
      · exact in1 tx ks
      · intro t
        refine (in3 tx [] t).trans ?_
        refine Iff.trans ?_ (row_nil t)
        simp
    refine ⟨ch', _, ⟨by show 2 ≤ (D.outs.set _ _).length; rw [List.length_set]; exact hN, hc'.chain, hc'.way, hc'.done, fun x hx => by show x.p < (D.outs.set _ _).length ∧ _ < (D.outs.set _ _).length; rw [List.length_set]; exact hopn x hx, fun t => ?_, ?_, ?_, ?_⟩, by show wS D.opn < _; omega⟩
    · exact ((path_union hin 0 1 t).symm.trans (hpath t))
    · show (D.outs.set _ _).length + wS D.opn ≤ _; rw [List.length_set]; omega
    · show (D.ways ++ [_]).length + 2 * wS D.opn ≤ _; rw [List.length_append]; simp only [List.length_singleton]; omega
    · show D.K.length + wS D.opn ≤ _; omega
  | none hop =>
    have hin : ∀ t, LabIn (.ex (.mk op tx ks)) t ↔ ∃ l ∈ ([] : List Lab), LabIn l t := by
      rcases hop with ⟨rfl, rfl⟩ | ⟨h1, h2, h3, h4, h5⟩
      · exact in2_none ks
      · exact in_other op tx ks h1 h2 h3 h4 h5
    exact ⟨ch, Gd, ⟨hN, hc.chain, hc.way, hc.done, hopn, fun t => (path_union hin 0 1 t).symm.trans (hpath t), by omega, by omega, by omega⟩, by omega⟩
  | byte o0 n K' svs' hop htx ho hn hK hKl =>
    subst hop
    obtain ⟨ch', hc'⟩ := hc.link (n := (n : Int)) (K' := K') (svs' := svs') ho hq hK (wlab_byte hn _ _) (.inr ⟨n, rfl, (List.getElem?_eq_some_iff.1 hn).1⟩)
    refine ⟨ch', _, ⟨by show 2 ≤ (D.outs.set _ _).length; rw [List.length_set]; exact hN, hc'.chain, hc'.way, hc'.done, fun x hx => by show x.p < (D.outs.set _ _).length ∧ _ < (D.outs.set _ _).length; rw [List.length_set]; exact hopn x hx, fun t => ?_, ?_, ?_, ?_⟩, by show wS D.opn < _; omega⟩
    · exact ((path_union (in2 tx ks) 0 1 t).symm.trans (hpath t))
    · show (D.outs.set _ _).length + wS D.opn ≤ _; rw [List.length_set]; omega
    · show (D.ways ++ [_]).length + 2 * wS D.opn ≤ _; rw [List.length_append]; simp only [List.length_singleton]; omega
    · show K'.length + wS D.opn ≤ _; omega
  | row sp hop hks hsp hat =>
    subst hop
    obtain ⟨ch', hc'⟩ := hc.grow (ks.length - 1)
    have hws : wS sp = (ks.map wt).sum := by rw [wS_tri, hsp, rowT_wt]
    have hsa : ∀ x ∈ sp, x.p < D.outs.length + (ks.length - 1) ∧ x.q < D.outs.length + (ks.length - 1) := fun x hx => rowT_at s.q ks s.p D.outs.length _ (by omega) (by omega) (Nat.le_refl _) (tri x) (sp_of hsp hx)
    have hol : (D.outs ++ List.replicate (ks.length - 1) (-1 : Int)).length = D.outs.length + (ks.length - 1) := by simp
    refine ⟨ch', Gd, ⟨?_, hc'.chain, hc'.way, hc'.done, fun x hx => ?_, fun t => ?_, ?_, ?_, ?_⟩, ?_⟩
    · show 2 ≤ (D.outs ++ List.replicate (ks.length - 1) (-1 : Int)).length; rw [hol]; omega
    · show x.p < (D.outs ++ List.replicate (ks.length - 1) (-1 : Int)).length ∧ x.q < (D.outs ++ List.replicate (ks.length - 1) (-1 : Int)).length
      rw [hol]
      rcases List.mem_append.1 hx with hx | hx
      · have := hopn x hx; omega
      · exact hsa x hx
    · show GPath (Gd ++ (D.opn ++ sp).map edgeS) 0 1 t ↔ _
      have h1 := (path_union (p := s.p) (q := s.q) (G0 := Gd ++ D.opn.map edgeS) (in3 tx ks) 0 1 t).symm.trans (hpath t)
      have h2 := row_paths s.q ks s.p D.outs.length (Gd ++ D.opn.map edgeS) hks hp hq hu 0 1 (by omega) (by omega) t
      refine Iff.trans (GPath.congr (fun e => ?_)) (h2.symm.trans h1)
      rw [List.map_append, edges_tri hsp]
      simp only [List.mem_append]
      exact ⟨fun h => by rcases h with h | h | h <;> simp [h], fun h => by rcases h with h | h | h <;> simp [h]⟩
    · show (D.outs ++ List.replicate (ks.length - 1) (-1 : Int)).length + wS (D.opn ++ sp) ≤ _; rw [hol, wS_append]; omega
    · show D.ways.length + 2 * wS (D.opn ++ sp) ≤ _; rw [wS_append]; omega
    · show D.K.length + wS (D.opn ++ sp) ≤ _; rw [wS_append]; omega
    · show wS (D.opn ++ sp) < _; rw [wS_append]; omega
  | choice sp hop hsp hat =>
    subst hop
    have hws : wS sp = (ks.map wt).sum := by rw [wS_tri, hsp, List.map_map]; rfl
    have hsa : ∀ x ∈ sp, x.p < D.outs.length ∧ x.q < D.outs.length := fun x hx => by
      obtain ⟨k, _, e⟩ := List.mem_map.1 (sp_of hsp hx)
      have e1 : s.p = x.p := congrArg (fun z => z.2.1) e
      have e2 : s.q = x.q := congrArg (fun z => z.2.2) e
      omega
    refine ⟨ch, Gd, ⟨hN, hc.chain, hc.way, hc.done, fun x hx => ?_, fun t => ?_, ?_, ?_, ?_⟩, ?_⟩
    · rcases List.mem_append.1 hx with hx | hx
      · exact hopn x hx
      · exact hsa x hx
    · show GPath (Gd ++ (D.opn ++ sp).map edgeS) 0 1 t ↔ _
      have h1 := (path_union (p := s.p) (q := s.q) (G0 := Gd ++ D.opn.map edgeS) (in4 tx ks) 0 1 t).symm.trans (hpath t)
      refine Iff.trans (GPath.congr (fun e => ?_)) h1
      rw [List.map_append, edges_tri hsp, List.map_map, List.map_map]
      simp only [List.mem_append]
      exact or3 _ _ _
    · show D.outs.length + wS (D.opn ++ sp) ≤ _; rw [wS_append]; omega
    · show D.ways.length + 2 * wS (D.opn ++ sp) ≤ _; rw [wS_append]; omega
    · show D.K.length + wS (D.opn ++ sp) ≤ _; rw [wS_append]; omega
    · show wS (D.opn ++ sp) < _; rw [wS_append]; omega
  | again o0 sp hop ho hsp hat =>
    subst hop
    have hws : wS sp = (ks.map wt).sum := by rw [wS_tri, hsp, List.map_map]; rfl
    obtain ⟨ch1, hc1⟩ := hc.grow 1
    have ho1 : ({ D with outs := D.outs ++ List.replicate 1 (-1) } : BData).outs[s.p]? = some o0 := by show (D.outs ++ _)[s.p]? = _; rw [List.getElem?_append_left hp]; exact ho
    obtain ⟨ch2, hc2⟩ := hc1.link (n := -1) (q := D.outs.length) (K' := D.K) (svs' := D.svs) ho1 (by show _ < (D.outs ++ [-1]).length; simp) (fun i t h => h) (wlab_eps D.K _ _) (.inl rfl)
    have ho2 : (LinkD { D with outs := D.outs ++ List.replicate 1 (-1) } s.p D.outs.length (-1) o0).outs[D.outs.length]? = some (-1) := by
      show ((D.outs ++ [-1]).set s.p _)[D.outs.length]? = _
      rw [List.getElem?_set_ne (by omega)]
      simp
    obtain ⟨ch3, hc3⟩ := CInv.link (D := LinkD { D with outs := D.outs ++ List.replicate 1 (-1) } s.p D.outs.length (-1) o0) hc2 (n := -1) (q := s.q) (K' := D.K) (svs' := D.svs) ho2 (by show _ < ((D.outs ++ [-1]).set _ _).length; simp; omega) (fun i t h => h) (wlab_eps D.K _ _) (.inl rfl)
    have hol : ((((D.outs ++ [-1]).set s.p (D.ways.length : Int))).set D.outs.length (((D.ways ++ [(⟨(D.outs.length : Int), -1, o0⟩ : WayD)]).length : Nat) : Int)).length = D.outs.length + 1 := by simp
    refine ⟨ch3, _, ⟨?_, hc3.chain, hc3.way, hc3.done, fun x hx => ?_, fun t => ?_, ?_, ?_, ?_⟩, ?_⟩
    · show 2 ≤ ((((D.outs ++ [-1]).set s.p (D.ways.length : Int))).set D.outs.length _).length
      simp; omega
    · show x.p < ((((D.outs ++ [-1]).set s.p (D.ways.length : Int))).set D.outs.length _).length ∧ x.q < ((((D.outs ++ [-1]).set s.p (D.ways.length : Int))).set D.outs.length _).length
      simp only [List.length_set, List.length_append, List.length_singleton]
      rcases List.mem_append.1 hx with hx | hx
      · have := hopn x hx; omega
      · obtain ⟨k, _, e⟩ := List.mem_map.1 (sp_of hsp hx)
        have e1 : D.outs.length = x.p := congrArg (fun z => z.2.1) e
        have e2 : D.outs.length = x.q := congrArg (fun z => z.2.2) e
        omega
    · show GPath (⟨D.outs.length, .eps, s.q⟩ :: ⟨s.p, .eps, D.outs.length⟩ :: Gd ++ (D.opn ++ sp).map edgeS) 0 1 t ↔ _
      have h1 := (path_hub (p := s.p) (q := s.q) (h := D.outs.length) (in5 tx ks) (hu.fresh (Nat.le_refl _)) (by omega) (by omega) 0 1 (by omega) (by omega) t).symm.trans (hpath t)
      refine Iff.trans (GPath.congr (fun e => ?_)) h1
      rw [List.map_append, edges_tri hsp, List.map_map, List.map_map]
      simp only [List.mem_append, List.mem_cons, List.cons_append]
      exact or5 _ _ _ _ _
    · show ((((D.outs ++ [-1]).set s.p (D.ways.length : Int))).set D.outs.length _).length + wS (D.opn ++ sp) ≤ _
      rw [wS_append]
      simp only [List.length_set, List.length_append, List.length_singleton]
      omega
    · show ((D.ways ++ [_]) ++ [_]).length + 2 * wS (D.opn ++ sp) ≤ _
      rw [wS_append]
      simp only [List.length_append, List.length_singleton]
      omega
    · show D.K.length + wS (D.opn ++ sp) ≤ _; rw [wS_append]; omega
    · show wS (D.opn ++ sp) < _; rw [wS_append]; omega
end Go.Proofs.YtfemboojdablhaaGreatDoor
