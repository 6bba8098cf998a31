/- The graph that the builder lays knows the set: what lay does. Plain. -/
import Derived.Test.YtjbdoeoimodhkaaGreatDoorAGraph
namespace Go.Proofs.YtjbdoeoimodhkaaGreatDoor

theorem or3 (a b c : Prop) : a ∨ b ∨ c ↔ c ∨ a ∨ b := by
  constructor
  · rintro (h | h | h)
    · exact .inr (.inl h)
    · exact .inr (.inr h)
    · exact .inl h
  · rintro (h | h | h)
    · exact .inr (.inr h)
    · exact .inl h
    · exact .inr (.inl h)
theorem or5 (x y a b c : Prop) : x ∨ y ∨ a ∨ b ∨ c ↔ y ∨ x ∨ c ∨ a ∨ b := by
  rw [or3 a b c]
  exact or_left_comm
theorem wlab_eps (K : List (List UInt8)) (q o0 : Int) (l' : Lab) : WLab K ⟨q, -1, o0⟩ l' ↔ l' = .eps := by
  constructor
  · rintro (⟨_, h⟩ | ⟨j, t, h, _⟩)
    · exact h
    · have : (-1 : Int) = (j : Int) := h; omega
  · intro h; exact .inl ⟨rfl, h⟩
theorem wlab_byte {K : List (List UInt8)} {n : Nat} {t : List UInt8} (hn : K[n]? = some t) (q o0 : Int) (l' : Lab) : WLab K ⟨q, (n : Int), o0⟩ l' ↔ l' = .bytes t := by
  constructor
  · rintro (⟨h, _⟩ | ⟨j, t', h, hj, h2⟩)
    · have : (n : Int) = -1 := h; omega
    · have : (n : Int) = (j : Int) := h
      have : n = j := by omega
      subst this
      rw [hn] at hj
      cases hj
      exact h2
  · intro h; exact .inr ⟨n, t, rfl, hn, h⟩
theorem edges_tri {sp : List SpanD} {xs : List (ExprD × Nat × Nat)} (h : sp.map tri = xs) : sp.map edgeS = xs.map edgeT := by
  rw [← h, List.map_map]; rfl
theorem sp_of {sp : List SpanD} {xs : List (ExprD × Nat × Nat)} (h : sp.map tri = xs) {s : SpanD} (hs : s ∈ sp) : tri s ∈ xs := by rw [← h]; exact List.mem_map.2 ⟨s, hs, rfl⟩
theorem lay_inv {B : Nat} {W : World} {D D' : BData} {s : SpanD} {e0 : ExprD} {ch : Nat → List WayD} {Gd : List Edge} {op : Int} {tx : List UInt8} {ks : List ExprD} (h : GInv { D with opn := D.opn ++ [s] } e0 ch Gd) (he : s.e = .mk op tx ks) (hl : LayD B W D op tx ks s.p s.q D') : ∃ ch' Gd', GInv D' e0 ch' Gd' ∧ wS D'.opn < wS (D.opn ++ [s]) := by
  have hpq := h.opn s (by simp)
  have hN : 2 ≤ D.outs.length := h.two
  have hp : s.p < D.outs.length := hpq.1
  have hq : s.q < D.outs.length := hpq.2
  have hopn : ∀ x ∈ D.opn, x.p < D.outs.length ∧ x.q < D.outs.length := fun x hx => h.opn x (by simp [hx])
  have hc : CInv D ch Gd := h.c.opn D.opn
  have sN := h.sN
  have sW := h.sW
  have sK := h.sK
  have hu : Under D.outs.length (Gd ++ D.opn.map edgeS) := by
    intro e he
    rcases List.mem_append.1 he with he | he
    · exact h.under e he
    · obtain ⟨x, hx, rfl⟩ := List.mem_map.1 he
      exact hopn x hx
  have hpath : ∀ t, GPath (⟨s.p, .ex (.mk op tx ks), s.q⟩ :: (Gd ++ D.opn.map edgeS)) 0 1 t ↔ InE e0 t := fun t => by
    refine (GPath.congr (fun e => ?_)).trans (h.path t)
    show _ ↔ e ∈ Gd ++ (D.opn ++ [s]).map edgeS
    rw [List.map_append, List.map_singleton, ← List.append_assoc, List.mem_append, List.mem_singleton, List.mem_cons]
    unfold edgeS
    rw [he]
    exact or_comm
  have hw : wt s.e = wtL ks + 1 := by rw [he, wt]
  have hwl := wtL_eq ks
  dsimp only at sN sW sK
  rw [wS_append, wS_one, hw] at sN sW sK ⊢
  clear h
  cases hl with
  | free o0 hop ho =>
    obtain ⟨ch', hc'⟩ := hc.link (n := -1) (K' := D.K) (svs' := D.svs) ho hq (fun i t h => h) (wlab_eps D.K _ _) (.inl rfl)
    have hin : ∀ t, LabIn (.ex (.mk op tx ks)) t ↔ ∃ l ∈ [Lab.eps], LabIn l t := by
      rcases hop with rfl | ⟨rfl, rfl⟩
      · exact in1 tx ks
      · intro t
        refine (in3 tx [] t).trans ?_
        refine Iff.trans ?_ (row_nil t)
        simp
    refine ⟨ch', _, ⟨by show 2 ≤ (D.outs.set _ _).length; rw [List.length_set]; exact hN, hc'.chain, hc'.way, hc'.done, fun x hx => by show x.p < (D.outs.set _ _).length ∧ _ < (D.outs.set _ _).length; rw [List.length_set]; exact hopn x hx, fun t => ?_, ?_, ?_, ?_⟩, by show wS D.opn < _; omega⟩
    · exact ((path_union hin 0 1 t).symm.trans (hpath t))
    · show (D.outs.set _ _).length + wS D.opn ≤ _; rw [List.length_set]; omega
    · show (D.ways ++ [_]).length + 2 * wS D.opn ≤ _; rw [List.length_append]; simp only [List.length_singleton]; omega
    · show D.K.length + wS D.opn ≤ _; omega
  | none hop =>
    have hin : ∀ t, LabIn (.ex (.mk op tx ks)) t ↔ ∃ l ∈ ([] : List Lab), LabIn l t := by
      rcases hop with ⟨rfl, rfl⟩ | ⟨h1, h2, h3, h4, h5⟩
      · exact in2_none ks
      · exact in_other op tx ks h1 h2 h3 h4 h5
    exact ⟨ch, Gd, ⟨hN, hc.chain, hc.way, hc.done, hopn, fun t => (path_union hin 0 1 t).symm.trans (hpath t), by omega, by omega, by omega⟩, by omega⟩
  | byte o0 n K' svs' hop htx ho hn hK hKl =>
    subst hop
    obtain ⟨ch', hc'⟩ := hc.link (n := (n : Int)) (K' := K') (svs' := svs') ho hq hK (wlab_byte hn _ _) (.inr ⟨n, rfl, (List.getElem?_eq_some_iff.1 hn).1⟩)
    refine ⟨ch', _, ⟨by show 2 ≤ (D.outs.set _ _).length; rw [List.length_set]; exact hN, hc'.chain, hc'.way, hc'.done, fun x hx => by show x.p < (D.outs.set _ _).length ∧ _ < (D.outs.set _ _).length; rw [List.length_set]; exact hopn x hx, fun t => ?_, ?_, ?_, ?_⟩, by show wS D.opn < _; omega⟩
    · exact ((path_union (in2 tx ks) 0 1 t).symm.trans (hpath t))
    · show (D.outs.set _ _).length + wS D.opn ≤ _; rw [List.length_set]; omega
    · show (D.ways ++ [_]).length + 2 * wS D.opn ≤ _; rw [List.length_append]; simp only [List.length_singleton]; omega
    · show K'.length + wS D.opn ≤ _; omega
  | row sp hop hks hsp hat =>
    subst hop
    obtain ⟨ch', hc'⟩ := hc.grow (ks.length - 1)
    have hws : wS sp = (ks.map wt).sum := by rw [wS_tri, hsp, rowT_wt]
    have hsa : ∀ x ∈ sp, x.p < D.outs.length + (ks.length - 1) ∧ x.q < D.outs.length + (ks.length - 1) := fun x hx => rowT_at s.q ks s.p D.outs.length _ (by omega) (by omega) (Nat.le_refl _) (tri x) (sp_of hsp hx)
    have hol : (D.outs ++ List.replicate (ks.length - 1) (-1 : Int)).length = D.outs.length + (ks.length - 1) := by simp
    refine ⟨ch', Gd, ⟨?_, hc'.chain, hc'.way, hc'.done, fun x hx => ?_, fun t => ?_, ?_, ?_, ?_⟩, ?_⟩
    · show 2 ≤ (D.outs ++ List.replicate (ks.length - 1) (-1 : Int)).length; rw [hol]; omega
    · show x.p < (D.outs ++ List.replicate (ks.length - 1) (-1 : Int)).length ∧ x.q < (D.outs ++ List.replicate (ks.length - 1) (-1 : Int)).length
      rw [hol]
      rcases List.mem_append.1 hx with hx | hx
      · have := hopn x hx; omega
      · exact hsa x hx
    · show GPath (Gd ++ (D.opn ++ sp).map edgeS) 0 1 t ↔ _
      have h1 := (path_union (p := s.p) (q := s.q) (G0 := Gd ++ D.opn.map edgeS) (in3 tx ks) 0 1 t).symm.trans (hpath t)
      have h2 := row_paths s.q ks s.p D.outs.length (Gd ++ D.opn.map edgeS) hks hp hq hu 0 1 (by omega) (by omega) t
      refine Iff.trans (GPath.congr (fun e => ?_)) (h2.symm.trans h1)
      rw [List.map_append, edges_tri hsp]
      simp only [List.mem_append]
      exact ⟨fun h => by rcases h with h | h | h <;> simp [h], fun h => by rcases h with h | h | h <;> simp [h]⟩
    · show (D.outs ++ List.replicate (ks.length - 1) (-1 : Int)).length + wS (D.opn ++ sp) ≤ _; rw [hol, wS_append]; omega
    · show D.ways.length + 2 * wS (D.opn ++ sp) ≤ _; rw [wS_append]; omega
    · show D.K.length + wS (D.opn ++ sp) ≤ _; rw [wS_append]; omega
    · show wS (D.opn ++ sp) < _; rw [wS_append]; omega
  | choice sp hop hsp hat =>
    subst hop
    have hws : wS sp = (ks.map wt).sum := by rw [wS_tri, hsp, List.map_map]; rfl
    have hsa : ∀ x ∈ sp, x.p < D.outs.length ∧ x.q < D.outs.length := fun x hx => by
      obtain ⟨k, _, e⟩ := List.mem_map.1 (sp_of hsp hx)
      have e1 : s.p = x.p := congrArg (fun z => z.2.1) e
      have e2 : s.q = x.q := congrArg (fun z => z.2.2) e
      omega
    refine ⟨ch, Gd, ⟨hN, hc.chain, hc.way, hc.done, fun x hx => ?_, fun t => ?_, ?_, ?_, ?_⟩, ?_⟩
    · rcases List.mem_append.1 hx with hx | hx
      · exact hopn x hx
      · exact hsa x hx
    · show GPath (Gd ++ (D.opn ++ sp).map edgeS) 0 1 t ↔ _
      have h1 := (path_union (p := s.p) (q := s.q) (G0 := Gd ++ D.opn.map edgeS) (in4 tx ks) 0 1 t).symm.trans (hpath t)
      refine Iff.trans (GPath.congr (fun e => ?_)) h1
      rw [List.map_append, edges_tri hsp, List.map_map, List.map_map]
      simp only [List.mem_append]
      exact or3 _ _ _
    · show D.outs.length + wS (D.opn ++ sp) ≤ _; rw [wS_append]; omega
    · show D.ways.length + 2 * wS (D.opn ++ sp) ≤ _; rw [wS_append]; omega
    · show D.K.length + wS (D.opn ++ sp) ≤ _; rw [wS_append]; omega
    · show wS (D.opn ++ sp) < _; rw [wS_append]; omega
  | again o0 sp hop ho hsp hat =>
    subst hop
    have hws : wS sp = (ks.map wt).sum := by rw [wS_tri, hsp, List.map_map]; rfl
    obtain ⟨ch1, hc1⟩ := hc.grow 1
    have ho1 : ({ D with outs := D.outs ++ List.replicate 1 (-1) } : BData).outs[s.p]? = some o0 := by show (D.outs ++ _)[s.p]? = _; rw [List.getElem?_append_left hp]; exact ho
    obtain ⟨ch2, hc2⟩ := hc1.link (n := -1) (q := D.outs.length) (K' := D.K) (svs' := D.svs) ho1 (by show _ < (D.outs ++ [-1]).length; simp) (fun i t h => h) (wlab_eps D.K _ _) (.inl rfl)
    have ho2 : (LinkD { D with outs := D.outs ++ List.replicate 1 (-1) } s.p D.outs.length (-1) o0).outs[D.outs.length]? = some (-1) := by
      show ((D.outs ++ [-1]).set s.p _)[D.outs.length]? = _
      rw [List.getElem?_set_ne (by omega)]
      simp
    obtain ⟨ch3, hc3⟩ := CInv.link (D := LinkD { D with outs := D.outs ++ List.replicate 1 (-1) } s.p D.outs.length (-1) o0) hc2 (n := -1) (q := s.q) (K' := D.K) (svs' := D.svs) ho2 (by show _ < ((D.outs ++ [-1]).set _ _).length; simp; omega) (fun i t h => h) (wlab_eps D.K _ _) (.inl rfl)
    have hol : ((((D.outs ++ [-1]).set s.p (D.ways.length : Int))).set D.outs.length (((D.ways ++ [(⟨(D.outs.length : Int), -1, o0⟩ : WayD)]).length : Nat) : Int)).length = D.outs.length + 1 := by simp
    refine ⟨ch3, _, ⟨?_, hc3.chain, hc3.way, hc3.done, fun x hx => ?_, fun t => ?_, ?_, ?_, ?_⟩, ?_⟩
    · show 2 ≤ ((((D.outs ++ [-1]).set s.p (D.ways.length : Int))).set D.outs.length _).length
      simp; omega
    · show x.p < ((((D.outs ++ [-1]).set s.p (D.ways.length : Int))).set D.outs.length _).length ∧ x.q < ((((D.outs ++ [-1]).set s.p (D.ways.length : Int))).set D.outs.length _).length
      simp only [List.length_set, List.length_append, List.length_singleton]
      rcases List.mem_append.1 hx with hx | hx
      · have := hopn x hx; omega
      · obtain ⟨k, _, e⟩ := List.mem_map.1 (sp_of hsp hx)
        have e1 : D.outs.length = x.p := congrArg (fun z => z.2.1) e
        have e2 : D.outs.length = x.q := congrArg (fun z => z.2.2) e
        omega
    · show GPath (⟨D.outs.length, .eps, s.q⟩ :: ⟨s.p, .eps, D.outs.length⟩ :: Gd ++ (D.opn ++ sp).map edgeS) 0 1 t ↔ _
      have h1 := (path_hub (p := s.p) (q := s.q) (h := D.outs.length) (in5 tx ks) (hu.fresh (Nat.le_refl _)) (by omega) (by omega) 0 1 (by omega) (by omega) t).symm.trans (hpath t)
      refine Iff.trans (GPath.congr (fun e => ?_)) h1
      rw [List.map_append, edges_tri hsp, List.map_map, List.map_map]
      simp only [List.mem_append, List.mem_cons, List.cons_append]
      exact or5 _ _ _ _ _
    · show ((((D.outs ++ [-1]).set s.p (D.ways.length : Int))).set D.outs.length _).length + wS (D.opn ++ sp) ≤ _
      rw [wS_append]
      simp only [List.length_set, List.length_append, List.length_singleton]
      omega
    · show ((D.ways ++ [_]) ++ [_]).length + 2 * wS (D.opn ++ sp) ≤ _
      rw [wS_append]
      simp only [List.length_append, List.length_singleton]
      omega
    · show D.K.length + wS (D.opn ++ sp) ≤ _; rw [wS_append]; omega
    · show wS (D.opn ++ sp) < _; rw [wS_append]; omega
end Go.Proofs.YtjbdoeoimodhkaaGreatDoor
