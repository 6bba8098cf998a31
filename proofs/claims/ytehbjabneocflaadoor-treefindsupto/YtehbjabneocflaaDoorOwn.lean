/- Rows of the call's own, written in place; what a tree is. -/
import Derived.Test.YtehbjabneocflaaDoorKid
namespace Go.Proofs.YtehbjabneocflaaDoor
open Go.RowKit

theorem own_set {B t size n m g cap i : Nat} {W : World} {xs : List Value} (h : W.ownsRow B t size (.slice (some ⟨g, 0, none⟩) m cap) n xs) (u : Value) : (W.setCell ⟨g, i, none⟩ u).ownsRow B t size (.slice (some ⟨g, 0, none⟩) m cap) n (xs.set i u) := by
  refine ⟨by rw [List.length_set]; exact h.1, ?_⟩
  rcases h.2 with ⟨e, _⟩ | ⟨g', cap', cur, e, hb, hg, hn, hm, hs, ht⟩
  · cases e
  · cases e
    obtain ⟨hlt, hk⟩ := Array.getElem?_eq_some_iff.1 hg
    refine .inr ⟨g, cap, cur.setIfInBounds i u, rfl, hb, ?_, hn, hm, by simpa using hs, ?_⟩
    · show (W.heap.modify g _)[g]? = _
      rw [Array.getElem?_eq_getElem (by rw [Array.size_modify]; exact hlt), Array.getElem_modify_self, hk]
      rfl
    · rw [Array.toList_setIfInBounds, List.take_set, ht]
theorem own_frozen {B t size n m g cap : Nat} {W : World} {xs : List Value} (h : W.ownsRow B t size (.slice (some ⟨g, 0, none⟩) m cap) n xs) (i : Nat) : W.frozen? ⟨g, i, none⟩ = false := by
  rcases h.2 with ⟨e, _⟩ | ⟨g', cap', cur, e, hb, hg, _⟩
  · cases e
  · cases e
    simp [World.frozen?, hg]
theorem own_apart {B B2 t t2 size size2 n n2 g : Nat} {W : World} {v v2 : Value} {xs xs2 : List Value} (h : W.ownsRow B t size v n xs) (h2 : W.ownsRow B2 t2 size2 v2 n2 xs2) (hne : t ≠ t2) (hg : v.ownBlock = some g) : v2.ownBlock ≠ some g := by
  intro e2
  rcases h.2 with ⟨rfl, _⟩ | ⟨g1, cap, cur, rfl, _, hc, _⟩
  · cases hg
  · rcases h2.2 with ⟨rfl, _⟩ | ⟨g2, cap2, cur2, rfl, _, hc2, _⟩
    · cases e2
    · simp only [Value.ownBlock, Option.some.injEq] at hg e2
      subst hg; subst e2
      rw [hc] at hc2
      cases hc2
      exact hne rfl
theorem own_keep {B t size n : Nat} {W W' : World} {v u : Value} {xs ys : List Value} {B2 t2 size2 n2 : Nat} (h : W.ownsRow B t size v n xs) (hu : W.ownsRow B2 t2 size2 u n2 ys) (hne : t ≠ t2) (hg : W.grownBy W' u.ownBlock) : W'.ownsRow B t size v n xs := by
  refine h.kept hg ?_
  cases e : v.ownBlock with
  | none => exact .inl rfl
  | some g =>
    refine .inr ?_
    have := own_apart h hu hne e
    intro e2; exact this e2.symm
theorem owns_below' {W W' : World} {B t size n : Nat} {v : Value} {xs : List Value} (h : W.ownsRow B t size v n xs) (hb : Below W.heap.size W W') : W'.ownsRow B t size v n xs := by
  refine ⟨h.1, ?_⟩
  rcases h.2 with h2 | ⟨g, cap, cur, e, hbb, hg, r⟩
  · exact .inl h2
  · exact .inr ⟨g, cap, cur, e, hbb, (hb.block g (Array.getElem?_eq_some_iff.1 hg).1).trans hg, r⟩
theorem owns_base' {W : World} {B B' t size n : Nat} {v : Value} {xs : List Value} (hB : B ≤ B') (h : W.ownsRow B' t size v n xs) : W.ownsRow B t size v n xs := by
  refine ⟨h.1, ?_⟩
  rcases h.2 with h2 | ⟨g, cap, cur, e, hbb, r⟩
  · exact .inl h2
  · exact .inr ⟨g, cap, cur, e, by omega, r⟩
theorem Owned.below {t B : Nat} {W W' : World} {v : Value} {l : List (NodeD × Value)} (h : Owned t B W v l) (hb : Below W.heap.size W W') : Owned t B W' v l :=
  ⟨owns_below' h.1 hb, fun p hp => owns_below' (h.2 p hp) hb⟩

/-- A tree, as far as going through it asks. -/
structure WF (L : List NodeD) : Prop where
  kids : ∀ (i : Nat) (n : NodeD), L[i]? = some n → ∀ c ∈ n.kids, ∃ m, L[c]? = some m ∧ m.up = (i : Int)
  up : ∀ (i : Nat) (n : NodeD), L[i]? = some n → 0 < i → 0 ≤ n.up ∧ n.up < (L.length : Int)
  root : ∀ n, L[0]? = some n → n.up = -1
  klen : ∀ (i : Nat) (n : NodeD), L[i]? = some n → n.kids.length ≤ L.length
  text : ∀ (i : Nat) (n : NodeD), L[i]? = some n → n.text.size ≤ 20000
  len : L.length ≤ 201

theorem WF.kid_lt {L : List NodeD} (h : WF L) {i : Nat} {n : NodeD} (hi : L[i]? = some n) : ∀ c ∈ n.kids, c < L.length := fun c hc => by
  obtain ⟨m, hm, _⟩ := h.kids i n hi c hc
  exact (List.getElem?_eq_some_iff.1 hm).1
theorem kidOf_mem {L : List NodeD} {ks : List Nat} {name : ByteArray} {c : Nat} (h : kidOf L ks name = (c : Int)) : c ∈ ks := by
  unfold kidOf at h
  cases e : ks.find? (nameIs L name) with
  | none => rw [e] at h; simp at h
  | some d =>
    rw [e] at h
    have : d = c := by simp at h; omega
    subst this
    exact List.mem_of_find?_eq_some e
theorem kidOf_cases (L : List NodeD) (ks : List Nat) (name : ByteArray) : kidOf L ks name = -1 ∨ ∃ c : Nat, kidOf L ks name = (c : Int) ∧ c ∈ ks := by
  cases e : ks.find? (nameIs L name) with
  | none => left; unfold kidOf; rw [e]
  | some d => right; exact ⟨d, by unfold kidOf; rw [e], List.mem_of_find?_eq_some e⟩

/-- The tree with one node more, in the directory at. -/
theorem WF.put {L : List NodeD} {at_ : Nat} {d n : NodeD} {ks : List Nat} (h : WF L) (hd : L[at_]? = some d) (hp : ks.Perm (d.kids ++ [L.length])) (hn : n.kids = []) (hu : n.up = (at_ : Int)) (ht : n.text.size ≤ 20000) (hl : L.length ≤ 200) :
    WF ((L ++ [n]).set at_ { d with kids := ks }) := by
  have hlt := (List.getElem?_eq_some_iff.1 hd).1
  have get : ∀ (i : Nat) (m : NodeD), ((L ++ [n]).set at_ { d with kids := ks })[i]? = some m → (i = at_ ∧ m = { d with kids := ks }) ∨ (i ≠ at_ ∧ L[i]? = some m) ∨ (i ≠ at_ ∧ i = L.length ∧ m = n) := by
    intro i m hm
    by_cases e : i = at_
    · subst e
      rw [List.getElem?_set_self (by simp; omega)] at hm
      exact .inl ⟨rfl, (Option.some.inj hm).symm⟩
    · rw [List.getElem?_set_ne (fun h => e h.symm)] at hm
      by_cases hi : i < L.length
      · rw [List.getElem?_append_left hi] at hm
        exact .inr (.inl ⟨e, hm⟩)
      · rw [List.getElem?_append_right (by omega)] at hm
        have hi0 : i - L.length = 0 := by
          have := (List.getElem?_eq_some_iff.1 hm).1
          simp at this; omega
        rw [hi0] at hm
        simp at hm
        exact .inr (.inr ⟨e, by omega, hm.symm⟩)
  have old : ∀ (c : Nat) (m : NodeD), L[c]? = some m → ∃ m', ((L ++ [n]).set at_ { d with kids := ks })[c]? = some m' ∧ m'.up = m.up := by
    intro c m hm
    have hc := (List.getElem?_eq_some_iff.1 hm).1
    by_cases e : c = at_
    · subst e
      refine ⟨_, List.getElem?_set_self (by simp; omega), ?_⟩
      rw [hd] at hm
      cases hm; rfl
    · exact ⟨m, by rw [List.getElem?_set_ne (fun h => e h.symm), List.getElem?_append_left hc]; exact hm, rfl⟩
  have new : ∃ m', ((L ++ [n]).set at_ { d with kids := ks })[L.length]? = some m' ∧ m'.up = (at_ : Int) :=
    ⟨n, by rw [List.getElem?_set_ne (by omega), List.getElem?_append_right (Nat.le_refl _)]; simp, hu⟩
  have hlen : ((L ++ [n]).set at_ { d with kids := ks }).length = L.length + 1 := by simp
  refine ⟨?_, ?_, ?_, ?_, ?_, by rw [hlen]; omega⟩
  · intro i m hm c hc
    rcases get i m hm with ⟨rfl, rfl⟩ | ⟨_, hm2⟩ | ⟨_, rfl, rfl⟩
    · have hc2 : c ∈ d.kids ++ [L.length] := hp.mem_iff.1 hc
      rw [List.mem_append] at hc2
      rcases hc2 with hc2 | hc2
      · obtain ⟨x, hx, hxu⟩ := h.kids _ d hd c hc2
        obtain ⟨x', hx', hxu'⟩ := old c x hx
        exact ⟨x', hx', hxu'.trans hxu⟩
      · simp at hc2; subst hc2; exact new
    · obtain ⟨x, hx, hxu⟩ := h.kids i m hm2 c hc
      obtain ⟨x', hx', hxu'⟩ := old c x hx
      exact ⟨x', hx', hxu'.trans hxu⟩
    · rw [hn] at hc; cases hc
  · intro i m hm hi
    rw [hlen]
    rcases get i m hm with ⟨rfl, rfl⟩ | ⟨_, hm2⟩ | ⟨_, rfl, rfl⟩
    · have h2 := (h.up _ d hd hi).2
      exact ⟨(h.up _ d hd hi).1, by show d.up < _; omega⟩
    · have := h.up i m hm2 hi; exact ⟨this.1, by have := this.2; omega⟩
    · rw [hu]; omega
  · intro m hm
    rcases get 0 m hm with ⟨rfl, rfl⟩ | ⟨_, hm2⟩ | ⟨_, e, rfl⟩
    · exact h.root d hd
    · exact h.root m hm2
    · omega
  · intro i m hm
    rw [hlen]
    rcases get i m hm with ⟨rfl, rfl⟩ | ⟨_, hm2⟩ | ⟨_, rfl, rfl⟩
    · have := h.klen _ d hd
      have e := hp.length_eq
      simp at e ⊢; omega
    · have := h.klen i m hm2; omega
    · rw [hn]; simp
  · intro i m hm
    rcases get i m hm with ⟨rfl, rfl⟩ | ⟨_, hm2⟩ | ⟨_, rfl, rfl⟩
    · exact h.text _ d hd
    · exact h.text i m hm2
    · exact ht
end Go.Proofs.YtehbjabneocflaaDoor
