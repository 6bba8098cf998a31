/- The document's automaton: what its states mean. Plain: nothing of the program. -/
import Derived.Test.YtjbdoeoimodhkaaGreatDoorAPlain
namespace Go.Proofs.YtjbdoeoimodhkaaGreatDoor

structure RSt where
  set : List UInt8
  to : Nat
  eps : List Nat
/-- So many steps from a state to state 0, with a text. -/
inductive AccN (G : List RSt) : Nat → Nat → List UInt8 → Prop
  | fin : AccN G 0 0 []
  | eps (n k x : Nat) (st : RSt) (t : List UInt8) (hk : G[k]? = some st) (hx : x ∈ st.eps) (h : AccN G n x t) : AccN G (n + 1) k t
  | byte (n k : Nat) (st : RSt) (c : UInt8) (t : List UInt8) (hk : G[k]? = some st) (hc : c ∈ st.set) (h : AccN G n st.to t) : AccN G (n + 1) k (c :: t)
mutual
/-- What the document's build lays, and where it begins. -/
def bldD : ExprD → List RSt → Nat → List RSt × Nat
  | .mk op st ks, A, next =>
    if op = 1 then (A, next)
    else if op = 2 then (A ++ [⟨st, next, []⟩], A.length)
    else if op = 3 then bldRow ks A next
    else if op = 4 then ((bldKids ks A next).1 ++ [⟨[], 0, (bldKids ks A next).2⟩], (bldKids ks A next).1.length)
    else if op = 5 then ((bldKids ks (A ++ [⟨[], 0, []⟩]) A.length).1.set A.length ⟨[], 0, next :: (bldKids ks (A ++ [⟨[], 0, []⟩]) A.length).2⟩, A.length)
    else (A ++ [⟨[], 0, []⟩], A.length)
def bldRow : List ExprD → List RSt → Nat → List RSt × Nat
  | [], A, next => (A, next)
  | k :: ks, A, next => bldD k (bldRow ks A next).1 (bldRow ks A next).2
def bldKids : List ExprD → List RSt → Nat → List RSt × List Nat
  | [], A, _ => (A, [])
  | k :: ks, A, next => ((bldKids ks (bldD k A next).1 next).1, (bldD k A next).2 :: (bldKids ks (bldD k A next).1 next).2)
end
/-- States laid behind others, which stay. -/
structure Laid (A A' : List RSt) : Prop where
  le : A.length ≤ A'.length
  keep : ∀ i, i < A.length → A'[i]? = A[i]?
theorem Laid.refl (A : List RSt) : Laid A A := ⟨Nat.le_refl _, fun _ _ => rfl⟩
theorem Laid.trans {A B C : List RSt} (h : Laid A B) (h2 : Laid B C) : Laid A C := ⟨Nat.le_trans h.le h2.le, fun i hi => (h2.keep i (Nat.lt_of_lt_of_le hi h.le)).trans (h.keep i hi)⟩
theorem Laid.snoc (A : List RSt) (x : RSt) : Laid A (A ++ [x]) := ⟨by simp, fun i hi => List.getElem?_append_left hi⟩
/-- A graph has the states that were laid between. -/
def Has (A A' G : List RSt) : Prop := ∀ i, A.length ≤ i → i < A'.length → G[i]? = A'[i]?
theorem Has.sub {A B C G : List RSt} (h : Has A C G) (_h1 : Laid A B) (h2 : Laid B C) : Has A B G := fun i hi hj => (h i hi (Nat.lt_of_lt_of_le hj h2.le)).trans (h2.keep i hj)
theorem Has.sup {A B C G : List RSt} (h : Has A C G) (h1 : Laid A B) : Has B C G := fun i hi hj => h i (Nat.le_trans h1.le hi) hj
def Snd (G : List RSt) (k next : Nat) (L : List UInt8 → Prop) : Prop := ∀ n t, AccN G n k t → ∃ x y m, t = x ++ y ∧ L x ∧ m ≤ n ∧ AccN G m next y
def Cpl (G : List RSt) (k next : Nat) (L : List UInt8 → Prop) : Prop := ∀ x y m, L x → AccN G m next y → ∃ m', AccN G m' k (x ++ y)
structure BOk (L : List UInt8 → Prop) (A A' : List RSt) (next k : Nat) : Prop where
  laid : Laid A A'
  at_ : k = next ∨ (A.length ≤ k ∧ k < A'.length)
  snd : ∀ G, Has A A' G → Snd G k next L
  cpl : ∀ G, Has A A' G → Cpl G k next L
structure KOk (ks : List ExprD) (A A' : List RSt) (next : Nat) (l : List Nat) : Prop where
  laid : Laid A A'
  at_ : ∀ k ∈ l, k = next ∨ (A.length ≤ k ∧ k < A'.length)
  snd : ∀ G, Has A A' G → ∀ k ∈ l, ∃ e ∈ ks, Snd G k next (InE e)
  cpl : ∀ G, Has A A' G → ∀ e ∈ ks, ∃ k ∈ l, Cpl G k next (InE e)
theorem acc_new {G : List RSt} {A : List RSt} (h0 : 0 < A.length) {i n : Nat} {st : RSt} {t : List UInt8} (hi : A.length ≤ i) (hG : G[i]? = some st) (h : AccN G n i t) :
    ∃ m, m < n ∧ ((∃ x ∈ st.eps, AccN G m x t) ∨ (∃ c u, c ∈ st.set ∧ t = c :: u ∧ AccN G m st.to u)) := by
  cases h with
  | fin => omega
  | eps n _ x st' t hk hx h => rw [hG] at hk; cases hk; exact ⟨n, by omega, .inl ⟨x, hx, h⟩⟩
  | byte n _ st' c t hk hc h => rw [hG] at hk; cases hk; exact ⟨n, by omega, .inr ⟨c, t, hc, rfl, h⟩⟩
theorem getElem?_snoc (A : List RSt) (x : RSt) : (A ++ [x])[A.length]? = some x := by simp
/-- A state from which nothing is reached. -/
theorem bok_dead {L : List UInt8 → Prop} (hL : ∀ x, ¬ L x) {A : List RSt} (h0 : 0 < A.length) (next : Nat) : BOk L A (A ++ [⟨[], 0, []⟩]) next A.length := by
  refine ⟨Laid.snoc _ _, .inr ⟨Nat.le_refl _, by simp⟩, fun G hG n t h => ?_, fun G hG x y m hx _ => absurd hx (hL x)⟩
  have hg := (hG A.length (Nat.le_refl _) (by simp)).trans (getElem?_snoc A _)
  obtain ⟨m, _, ⟨x, hx, _⟩ | ⟨c, u, hc, _⟩⟩ := acc_new h0 (Nat.le_refl _) hg h
  · cases hx
  · cases hc
theorem BOk.of_iff {L L' : List UInt8 → Prop} (hL : ∀ x, L x ↔ L' x) {A A' : List RSt} {next k : Nat} (h : BOk L A A' next k) : BOk L' A A' next k := by
  refine ⟨h.laid, h.at_, fun G hG n t ha => ?_, fun G hG x y m hx ha => h.cpl G hG x y m ((hL x).2 hx) ha⟩
  obtain ⟨x, y, m, e, hx, r⟩ := h.snd G hG n t ha
  exact ⟨x, y, m, e, (hL x).1 hx, r⟩
mutual
theorem bld_ok : ∀ (e : ExprD) (A : List RSt) (next : Nat), 0 < A.length → BOk (InE e) A (bldD e A next).1 next (bldD e A next).2
  | .mk op st ks, A, next, h0 => by
    rw [bldD]
    by_cases h1 : op = 1
    · subst h1
      rw [if_pos rfl]
      refine ⟨Laid.refl _, .inl rfl, fun G _ n t h => ⟨[], t, n, rfl, .emp st ks, Nat.le_refl _, h⟩, fun G _ x y m hx ha => ?_⟩
      cases hx
      exact ⟨m, ha⟩
    rw [if_neg h1]
    by_cases h2 : op = 2
    · subst h2
      rw [if_pos rfl]
      refine ⟨Laid.snoc _ _, .inr ⟨Nat.le_refl _, by simp⟩, fun G hG n t h => ?_, fun G hG x y m hx ha => ?_⟩
      · have hg := (hG A.length (Nat.le_refl _) (by simp)).trans (getElem?_snoc A _)
        obtain ⟨m, hm, ⟨x, hx, _⟩ | ⟨c, u, hc, e, ha⟩⟩ := acc_new h0 (Nat.le_refl _) hg h
        · cases hx
        · exact ⟨[c], u, m, e, .byte st ks c hc, by omega, ha⟩
      · have hg := (hG A.length (Nat.le_refl _) (by simp)).trans (getElem?_snoc A _)
        cases hx with
        | byte _ _ c hc => exact ⟨m + 1, .byte m _ _ c y hg hc ha⟩
    rw [if_neg h2]
    by_cases h3 : op = 3
    · subst h3
      rw [if_pos rfl]
      refine (bldRow_ok ks A next h0).of_iff fun x => ⟨fun h => .row st ks x h, fun h => ?_⟩
      cases h with
      | row _ _ _ h => exact h
    rw [if_neg h3]
    by_cases h4 : op = 4
    · subst h4
      rw [if_pos rfl]
      have hk := bldKids_ok ks A next h0
      obtain ⟨A1, hA1⟩ : ∃ A1, (bldKids ks A next).1 = A1 := ⟨_, rfl⟩
      obtain ⟨l, hl⟩ : ∃ l, (bldKids ks A next).2 = l := ⟨_, rfl⟩
      rw [hA1, hl] at hk ⊢
      have hh : ∀ G, Has A (A1 ++ [⟨[], 0, l⟩]) G → Has A A1 G ∧ G[A1.length]? = some ⟨[], 0, l⟩ := fun G hG =>
        ⟨hG.sub hk.laid (Laid.snoc _ _), (hG A1.length hk.laid.le (by simp)).trans (getElem?_snoc A1 _)⟩
      refine ⟨hk.laid.trans (Laid.snoc _ _), .inr ⟨hk.laid.le, by simp⟩, fun G hG n t h => ?_, fun G hG x y m hx ha => ?_⟩
      · obtain ⟨h1, hg⟩ := hh G hG
        obtain ⟨m, hm, ⟨x, hx, ha⟩ | ⟨c, u, hc, _⟩⟩ := acc_new h0 hk.laid.le hg h
        · obtain ⟨e, he, hs⟩ := hk.snd G h1 x hx
          obtain ⟨u, v, m', e1, hu, hm', hv⟩ := hs m t ha
          exact ⟨u, v, m', e1, .choice st ks e u he hu, by omega, hv⟩
        · cases hc
      · obtain ⟨h1, hg⟩ := hh G hG
        cases hx with
        | choice _ _ e _ he hx =>
          obtain ⟨k, hk1, hc⟩ := hk.cpl G h1 e he
          obtain ⟨m', hm'⟩ := hc x y m hx ha
          exact ⟨m' + 1, .eps m' _ k _ _ hg hk1 hm'⟩
    rw [if_neg h4]
    by_cases h5 : op = 5
    · subst h5
      rw [if_pos rfl]
      have hk := bldKids_ok ks (A ++ [⟨[], 0, []⟩]) A.length (by simp)
      obtain ⟨A1, hA1⟩ : ∃ A1, (bldKids ks (A ++ [⟨[], 0, []⟩]) A.length).1 = A1 := ⟨_, rfl⟩
      obtain ⟨l, hl⟩ : ∃ l, (bldKids ks (A ++ [⟨[], 0, []⟩]) A.length).2 = l := ⟨_, rfl⟩
      rw [hA1, hl] at hk ⊢
      have hle : A.length < A1.length := by have := hk.laid.le; simp at this; omega
      have hlaid : Laid A (A1.set A.length ⟨[], 0, next :: l⟩) := by
        refine ⟨by simp; omega, fun i hi => ?_⟩
        rw [List.getElem?_set_ne (by omega), hk.laid.keep i (by simp; omega), List.getElem?_append_left hi]
      have hh : ∀ G, Has A (A1.set A.length ⟨[], 0, next :: l⟩) G → Has (A ++ [⟨[], 0, []⟩]) A1 G ∧ G[A.length]? = some ⟨[], 0, next :: l⟩ := fun G hG =>
        ⟨fun i hi hj => by
          simp at hi
          have := hG i (by omega) (by simpa using hj)
          rwa [List.getElem?_set_ne (by omega)] at this, by
          have := hG A.length (Nat.le_refl _) (by simpa using hle)
          rwa [List.getElem?_set_self hle] at this⟩
      refine ⟨hlaid, .inr ⟨Nat.le_refl _, by simpa using hle⟩, fun G hG n => ?_, fun G hG x y m hx ha => ?_⟩
      · obtain ⟨h1, hg⟩ := hh G hG
        induction n using Nat.strongRecOn with
        | _ n ih =>
          intro t h
          obtain ⟨m, hm, ⟨x, hx, ha⟩ | ⟨c, u, hc, _⟩⟩ := acc_new h0 (Nat.le_refl _) hg h
          · rcases List.mem_cons.1 hx with rfl | hx
            · exact ⟨[], t, m, rfl, .none st ks, by omega, ha⟩
            · obtain ⟨e, he, hs⟩ := hk.snd G h1 x hx
              obtain ⟨u, v, m', rfl, hu, hm', hv⟩ := hs m t ha
              obtain ⟨u2, v2, m2, rfl, hu2, hm2, hv2⟩ := ih m' (by omega) v hv
              exact ⟨u ++ u2, v2, m2, by simp, .again st ks e u u2 he hu hu2, by omega, hv2⟩
          · cases hc
      · obtain ⟨h1, hg⟩ := hh G hG
        have hst := (in5 st ks x).1 hx
        clear hx
        induction hst with
        | nil => exact ⟨m + 1, .eps m _ next _ _ hg (by simp) ha⟩
        | cons lb u v hlb hu _ ih =>
          obtain ⟨e, he, rfl⟩ := List.mem_map.1 hlb
          obtain ⟨m1, hm1⟩ := ih
          obtain ⟨k, hk1, hc⟩ := hk.cpl G h1 e he
          obtain ⟨m', hm'⟩ := hc u (v ++ y) m1 hu hm1
          rw [List.append_assoc]
          exact ⟨m' + 1, .eps m' _ k _ _ hg (by simp [hk1]) hm'⟩
    rw [if_neg h5]
    refine bok_dead (fun x hx => ?_) h0 next
    obtain ⟨l, hl, _⟩ := (in_other op st ks h1 h2 h3 h4 h5 x).1 hx
    cases hl
theorem bldRow_ok : ∀ (ks : List ExprD) (A : List RSt) (next : Nat), 0 < A.length → BOk (InRow ks) A (bldRow ks A next).1 next (bldRow ks A next).2
  | [], A, next, h0 => by
    rw [bldRow]
    refine ⟨Laid.refl _, .inl rfl, fun G _ n t h => ⟨[], t, n, rfl, .nil, Nat.le_refl _, h⟩, fun G _ x y m hx ha => ?_⟩
    cases hx
    exact ⟨m, ha⟩
  | k :: ks, A, next, h0 => by
    rw [bldRow]
    have hr := bldRow_ok ks A next h0
    have hk := bld_ok k (bldRow ks A next).1 (bldRow ks A next).2 (Nat.lt_of_lt_of_le h0 hr.laid.le)
    refine ⟨hr.laid.trans hk.laid, ?_, fun G hG n t h => ?_, fun G hG x y m hx ha => ?_⟩
    · have h1 := hr.laid.le
      have h2 := hk.laid.le
      rcases hk.at_ with h | h
      · rw [h]
        rcases hr.at_ with h | h
        · exact .inl h
        · exact .inr ⟨h.1, by omega⟩
      · exact .inr ⟨by omega, h.2⟩
    · obtain ⟨u, v, m, rfl, hu, hm, hv⟩ := hk.snd G (hG.sup hr.laid) n t h
      obtain ⟨u2, v2, m2, rfl, hu2, hm2, hv2⟩ := hr.snd G (hG.sub hr.laid hk.laid) m v hv
      exact ⟨u ++ u2, v2, m2, by simp, .cons k ks u u2 hu hu2, by omega, hv2⟩
    · cases hx with
      | cons _ _ u v hu hv =>
        obtain ⟨m1, h1⟩ := hr.cpl G (hG.sub hr.laid hk.laid) v y m hv ha
        rw [List.append_assoc]
        exact hk.cpl G (hG.sup hr.laid) u (v ++ y) m1 hu h1
theorem bldKids_ok : ∀ (ks : List ExprD) (A : List RSt) (next : Nat), 0 < A.length → KOk ks A (bldKids ks A next).1 next (bldKids ks A next).2
  | [], A, next, h0 => by
    rw [bldKids]
    exact ⟨Laid.refl _, fun k hk => (by cases hk), fun G _ k hk => (by cases hk), fun G _ e he => (by cases he)⟩
  | k :: ks, A, next, h0 => by
    rw [bldKids]
    dsimp only
    have hk := bld_ok k A next h0
    have hr := bldKids_ok ks (bldD k A next).1 next (Nat.lt_of_lt_of_le h0 hk.laid.le)
    have h1 := hk.laid.le
    have h2 := hr.laid.le
    refine ⟨hk.laid.trans hr.laid, fun j hj => ?_, fun G hG j hj => ?_, fun G hG e he => ?_⟩
    · rcases List.mem_cons.1 hj with rfl | hj
      · rcases hk.at_ with h | h
        · exact .inl h
        · exact .inr ⟨h.1, by omega⟩
      · rcases hr.at_ j hj with h | h
        · exact .inl h
        · exact .inr ⟨by omega, h.2⟩
    · rcases List.mem_cons.1 hj with rfl | hj
      · exact ⟨k, by simp, hk.snd G (hG.sub hk.laid hr.laid)⟩
      · obtain ⟨e, he, hs⟩ := hr.snd G (hG.sup hk.laid) j hj
        exact ⟨e, by simp [he], hs⟩
    · rcases List.mem_cons.1 he with rfl | he
      · exact ⟨_, by simp, hk.cpl G (hG.sub hk.laid hr.laid)⟩
      · obtain ⟨j, hj, hc⟩ := hr.cpl G (hG.sup hk.laid) e he
        exact ⟨j, by simp [hj], hc⟩
end

/-! ### Where a text leads -/
inductive FRch (G : List RSt) (p : Nat) : List UInt8 → Nat → Prop
  | nil : FRch G p [] p
  | eps (s : List UInt8) (k x : Nat) (st : RSt) (h : FRch G p s k) (hk : G[k]? = some st) (hx : x ∈ st.eps) : FRch G p s x
  | byte (s : List UInt8) (k : Nat) (st : RSt) (c : UInt8) (h : FRch G p s k) (hk : G[k]? = some st) (hc : c ∈ st.set) : FRch G p (s ++ [c]) st.to
theorem frch_back {G : List RSt} {p : Nat} {s : List UInt8} {k : Nat} (h : FRch G p s k) : ∀ n t, AccN G n k t → ∃ m, AccN G m p (s ++ t) := by
  induction h with
  | nil => exact fun n t h => ⟨n, h⟩
  | eps s k x st _ hk hx ih => exact fun n t h => ih (n + 1) t (.eps n k x st t hk hx h)
  | byte s k st c _ hk hc ih =>
    intro n t h
    rw [List.append_assoc]
    exact ih (n + 1) (c :: t) (.byte n k st c t hk hc h)
theorem acc_frch {G : List RSt} {p n k : Nat} {t : List UInt8} (h : AccN G n k t) : ∀ s, FRch G p s k → FRch G p (s ++ t) 0 := by
  induction h with
  | fin => intro s h; rw [List.append_nil]; exact h
  | eps n k x st t hk hx _ ih => exact fun s h => ih s (.eps s k x st h hk hx)
  | byte n k st c t hk hc _ ih =>
    intro s h
    have := ih (s ++ [c]) (.byte s k st c h hk hc)
    rwa [List.append_assoc] at this
def rAuto (e : ExprD) : List RSt := (bldD e [⟨[], 0, []⟩] 0).1
def rStart (e : ExprD) : Nat := (bldD e [⟨[], 0, []⟩] 0).2
theorem ref_match (e : ExprD) (s : List UInt8) : FRch (rAuto e) (rStart e) s 0 ↔ InE e s := by
  have hb := bld_ok e [⟨[], 0, []⟩] 0 (by simp)
  have hG : Has [⟨[], 0, []⟩] (bldD e [⟨[], 0, []⟩] 0).1 (rAuto e) := fun i _ _ => rfl
  have h0 : (rAuto e)[0]? = some ⟨[], 0, []⟩ := hb.laid.keep 0 (by simp)
  constructor
  · intro h
    obtain ⟨m, hm⟩ := frch_back h 0 [] .fin
    rw [List.append_nil] at hm
    obtain ⟨x, y, m', rfl, hx, _, hy⟩ := hb.snd _ hG m s hm
    cases hy with
    | fin => rw [List.append_nil]; exact hx
    | eps _ _ _ st _ hk hx' _ => rw [h0] at hk; cases hk; cases hx'
    | byte _ _ st _ _ hk hc _ => rw [h0] at hk; cases hk; cases hc
  · intro h
    obtain ⟨m, hm⟩ := hb.cpl _ hG s [] 0 h .fin
    rw [List.append_nil] at hm
    exact acc_frch hm [] .nil

/-! ### How great it is -/
mutual
def nodes : ExprD → Nat
  | .mk _ _ ks => nodesL ks + 1
def nodesL : List ExprD → Nat
  | [] => 0
  | k :: ks => nodes k + nodesL ks
end
def epsT (A : List RSt) : Nat := (A.map (fun st => st.eps.length)).sum
theorem epsT_snoc (A : List RSt) (x : RSt) : epsT (A ++ [x]) = epsT A + x.eps.length := by simp [epsT]
theorem epsT_set : ∀ (A : List RSt) (i : Nat) (x : RSt), epsT (A.set i x) ≤ epsT A + x.eps.length := by
  intro A
  induction A with
  | nil => intro i x; simp [epsT]
  | cons a A ih =>
    intro i x
    cases i with
    | zero => simp [epsT]; omega
    | succ i =>
      have := ih i x
      simp [epsT] at this ⊢
      omega
def Wf (A : List RSt) : Prop := ∀ st ∈ A, st.to < A.length ∧ ∀ x ∈ st.eps, x < A.length
theorem wf_snoc {A : List RSt} (h : Wf A) (x : RSt) (h1 : x.to < A.length + 1) (h2 : ∀ y ∈ x.eps, y < A.length + 1) : Wf (A ++ [x]) := by
  intro st hst
  rw [List.length_append, List.length_singleton]
  rcases List.mem_append.1 hst with hst | hst
  · have := h st hst
    exact ⟨by omega, fun y hy => Nat.lt_succ_of_lt (this.2 y hy)⟩
  · rw [List.mem_singleton] at hst
    subst hst
    exact ⟨h1, h2⟩
theorem wf_set {A : List RSt} (h : Wf A) (i : Nat) (x : RSt) (h1 : x.to < A.length) (h2 : ∀ y ∈ x.eps, y < A.length) : Wf (A.set i x) := by
  intro st hst
  rw [List.length_set]
  rcases List.mem_or_eq_of_mem_set hst with hst | rfl
  · exact h st hst
  · exact ⟨h1, h2⟩
mutual
theorem bld_sz : ∀ (e : ExprD) (A : List RSt) (next : Nat), next < A.length → Wf A → Wf (bldD e A next).1 ∧ (bldD e A next).2 < (bldD e A next).1.length ∧ A.length ≤ (bldD e A next).1.length ∧ (bldD e A next).1.length ≤ A.length + nodes e ∧ epsT (bldD e A next).1 + 1 ≤ epsT A + 2 * nodes e
  | .mk op st ks, A, next, hn, hw => by
    rw [bldD, nodes]
    by_cases h1 : op = 1
    · rw [if_pos h1]; dsimp only; exact ⟨hw, hn, Nat.le_refl _, by omega, by omega⟩
    rw [if_neg h1]
    by_cases h2 : op = 2
    · rw [if_pos h2]
      exact ⟨wf_snoc hw _ (by simp only; omega) (by simp), by simp, by simp, by simp, by rw [epsT_snoc]; simp; omega⟩
    rw [if_neg h2]
    by_cases h3 : op = 3
    · rw [if_pos h3]
      have h := bldRow_sz ks A next hn hw
      exact ⟨h.1, h.2.1, h.2.2.1, by omega, by omega⟩
    rw [if_neg h3]
    by_cases h4 : op = 4
    · rw [if_pos h4]
      obtain ⟨a, b, c, d, e⟩ := bldKids_sz ks A next hn hw
      refine ⟨wf_snoc a _ (by simp) (fun y hy => Nat.lt_succ_of_lt (b y hy)), by simp, by simp; omega, by simp; omega, ?_⟩
      rw [epsT_snoc]
      simp only
      omega
    rw [if_neg h4]
    by_cases h5 : op = 5
    · rw [if_pos h5]
      obtain ⟨a, b, c, d, e⟩ := bldKids_sz ks (A ++ [⟨[], 0, []⟩]) A.length (by simp) (wf_snoc hw _ (by simp) (by simp))
      simp at c d
      rw [epsT_snoc] at e
      simp only [List.length_nil] at e
      have hs := epsT_set (bldKids ks (A ++ [⟨[], 0, []⟩]) A.length).1 A.length ⟨[], 0, next :: (bldKids ks (A ++ [⟨[], 0, []⟩]) A.length).2⟩
      simp only [List.length_cons] at hs
      refine ⟨wf_set a _ _ (by simp only; omega) (fun y hy => ?_), by simp; omega, by simp; omega, by simp; omega, by simp only; omega⟩
      rcases List.mem_cons.1 hy with rfl | hy
      · omega
      · exact b y hy
    rw [if_neg h5]
    exact ⟨wf_snoc hw _ (by simp) (by simp), by simp, by simp, by simp, by rw [epsT_snoc]; simp; omega⟩
theorem bldRow_sz : ∀ (ks : List ExprD) (A : List RSt) (next : Nat), next < A.length → Wf A → Wf (bldRow ks A next).1 ∧ (bldRow ks A next).2 < (bldRow ks A next).1.length ∧ A.length ≤ (bldRow ks A next).1.length ∧ (bldRow ks A next).1.length ≤ A.length + nodesL ks ∧ epsT (bldRow ks A next).1 ≤ epsT A + 2 * nodesL ks
  | [], A, next, hn, hw => by
    rw [bldRow, nodesL]; dsimp only; exact ⟨hw, hn, Nat.le_refl _, by omega, by omega⟩
  | k :: ks, A, next, hn, hw => by
    rw [bldRow, nodesL]
    obtain ⟨a, b, c, d, e⟩ := bldRow_sz ks A next hn hw
    obtain ⟨a', b', c', d', e'⟩ := bld_sz k (bldRow ks A next).1 (bldRow ks A next).2 b a
    exact ⟨a', b', by omega, by omega, by omega⟩
theorem bldKids_sz : ∀ (ks : List ExprD) (A : List RSt) (next : Nat), next < A.length → Wf A → Wf (bldKids ks A next).1 ∧ (∀ y ∈ (bldKids ks A next).2, y < (bldKids ks A next).1.length) ∧ A.length ≤ (bldKids ks A next).1.length ∧ (bldKids ks A next).1.length ≤ A.length + nodesL ks ∧ epsT (bldKids ks A next).1 + (bldKids ks A next).2.length ≤ epsT A + 2 * nodesL ks
  | [], A, next, hn, hw => by
    rw [bldKids, nodesL]; dsimp only; exact ⟨hw, fun y hy => (by cases hy), Nat.le_refl _, by omega, by simp⟩
  | k :: ks, A, next, hn, hw => by
    rw [bldKids, nodesL]
    dsimp only
    obtain ⟨a', b', c', d', e'⟩ := bld_sz k A next hn hw
    obtain ⟨a, b, c, d, e⟩ := bldKids_sz ks (bldD k A next).1 next (by omega) a'
    refine ⟨a, fun y hy => ?_, by omega, by omega, by simp only [List.length_cons]; omega⟩
    rcases List.mem_cons.1 hy with rfl | hy
    · omega
    · exact b y hy
end
end Go.Proofs.YtjbdoeoimodhkaaGreatDoor
