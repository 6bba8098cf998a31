/- What is left behind a line that has been read. -/
import Derived.Test.YtconbmfbokpklaaGreatDoorReadL
namespace Go.Proofs.YtconbmfbokpklaaGreatDoor
open Go.RowKit Go.Maps

def Is33 (W : World) (b : Nat) : Prop := ∃ cs, W.heap[b]? = some (.cells cs 33 (0, 0))
theorem Is33.set {W : World} {b i : Nat} {u : Value} (h : Is33 W b) : Is33 (W.setCell ⟨b, i, none⟩ u) b := by
  obtain ⟨cs, h⟩ := h
  have hlt := (Array.getElem?_eq_some_iff.1 h).1
  have hk := (Array.getElem?_eq_some_iff.1 h).2
  refine ⟨cs.setIfInBounds i u, ?_⟩
  show (W.heap.modify b _)[b]? = _
  rw [Array.getElem?_eq_getElem (by rw [Array.size_modify]; exact hlt), Array.getElem_modify_self, hk]
  rfl
theorem ErrV.keep33 {W : World} {v : Value} {S : List Addr} {b i : Nat} {u : Value} (h : ErrV W v S) (hb : Is33 W b) : ErrV (W.setCell ⟨b, i, none⟩ u) v S := by
  have other : ∀ (c : Nat) (o : Obj), W.heap[c]? = some o → c ≠ b → (W.setCell ⟨b, i, none⟩ u).heap[c]? = some o := by
    intro c o hc hne
    exact ((set_grown W b i u).block c (Array.getElem?_eq_some_iff.1 hc).1 (fun e => hne (Option.some.inj e))).trans hc
  induction h with
  | leaf a c t ha =>
    by_cases e : a.block = b
    · obtain ⟨cs, h3⟩ := hb.set (i := i) (u := u)
      exact .leaf a cs 33 (by rw [e]; exact h3)
    · exact .leaf a c t (other a.block _ ha e)
  | join c g cap es cur hc hg hcc hl hcap _ ih =>
    obtain ⟨cs, hb⟩ := hb
    refine .join c g cap es cur (other c _ hc ?_) (other g _ hg ?_) hcc hl hcap ih
    · intro e; rw [e, hb] at hc; cases hc
    · intro e; rw [e, hb] at hg; cases hg
theorem OErr.keep33 {W : World} {p : Value × List Addr} {b i : Nat} {u : Value} (h : OErr W p) (hb : Is33 W b) : OErr (W.setCell ⟨b, i, none⟩ u) p := by
  rcases h with h | ⟨t, v, e, h⟩
  · exact .inl h
  · exact .inr ⟨t, v, e, h.keep33 hb⟩
theorem OErr.drew {W : World} {p : Value × List Addr} (h : OErr W p) : OErr W.drew p := h.below ((Below.refl _ _).drew)
def Seven (W : World) (b : Nat) (x0 x1 x2 x3 x4 x5 x6 : Value) : World := (((((((W.setCell ⟨b, 0, none⟩ x0).setCell ⟨b, 1, none⟩ x1).setCell ⟨b, 2, none⟩ x2).setCell ⟨b, 3, none⟩ x3).setCell ⟨b, 4, none⟩ x4).setCell ⟨b, 5, none⟩ x5).setCell ⟨b, 6, none⟩ x6)
theorem OErr.seven {W : World} {p : Value × List Addr} {b : Nat} {x0 x1 x2 x3 x4 x5 x6 : Value} (h : OErr W p) (hb : Is33 W b) : OErr (Seven W b x0 x1 x2 x3 x4 x5 x6) p :=
  ((((((h.keep33 hb).keep33 hb.set).keep33 hb.set.set).keep33 hb.set.set.set).keep33 hb.set.set.set.set).keep33 hb.set.set.set.set.set).keep33 hb.set.set.set.set.set.set
theorem rl_fin {A : Ads} {r : Option LineD} {M : Nat} {w W6 W7 : World} {x : Value × List Addr} {v : Value} {k sz tm : Int} {tx way : ByteArray} {x0 x1 x2 x3 x4 x5 x6 : Value} (hv : v = x.1) (hW : W7 = Seven W6 w.heap.size x0 x1 x2 x3 x4 x5 x6 ∨ W7 = (Seven W6 w.heap.size x0 x1 x2 x3 x4 x5 x6).drew) (ho : OErr W6 x) (hcase : RLCase A x k sz tm tx way r) (hM : way.size ≤ M) (hb : Below w.heap.size w W6) (h33 : Is33 W6 w.heap.size) :
    RLPost A r M w (.returned (.tuple #[.agg #[.int .u8 k, .string (bs []), .int .i64 0, .int .i64 sz, .int .i64 tm, .string tx, .slice none 0 0], .string way, v])) W7 := by
  subst hv
  have hb2 : Below w.heap.size w (Seven W6 w.heap.size x0 x1 x2 x3 x4 x5 x6) := below7 hb (Nat.le_refl _)
  have ho2 : OErr (Seven W6 w.heap.size x0 x1 x2 x3 x4 x5 x6) x := ho.seven h33
  rcases hW with rfl | rfl
  · exact ⟨x, k, sz, tm, tx, way, rfl, ho2, hcase, hM, hb2⟩
  · exact ⟨x, k, sz, tm, tx, way, rfl, ho2.drew, hcase, hM, hb2.drew⟩
theorem line_yes {s key way : ByteArray} {ys : List ByteArray} {r : FldD} (e : cutS 9 s = key :: way :: ys) (h1 : (cutS 47 way).all nameOk = true) (h2 : fieldsD (headI key) ys = some r) : lineD s = some ⟨r, way⟩ := by
  unfold lineD; rw [e]; simp only [h1, h2, if_true]; rfl
theorem lineD_no {s key way : ByteArray} {ys : List ByteArray} (e : cutS 9 s = key :: way :: ys) (h : (cutS 47 way).all nameOk = false ∨ fieldsD (headI key) ys = none) : lineD s = none := by
  unfold lineD; rw [e]
  rcases h with h | h
  · simp [h]
  · simp only [h]; split <;> rfl
/-- The error of a line that is wrong. -/
theorem text_err {A : Ads} {x q : Value × List Addr} {o1 : Bool} (h2 : x.2 = (errT A o1).2 ++ q.2) (hn : nn x = (nn (errT A o1) || nn q)) (hq : TextErr A q ∨ (q = (.nilIface, []) ∧ o1 = false)) : TextErr A x := by
  refine ⟨?_, ?_, ?_⟩
  · rw [hn]
    rcases hq with h | ⟨rfl, rfl⟩
    · rw [h.1, Bool.or_true]
    · rfl
  · rw [h2]
    rcases hq with h | ⟨rfl, rfl⟩
    · intro e; exact h.2.1 (List.append_eq_nil_iff.1 e).2
    · simp [errT]
  · intro a ha
    rw [h2, List.mem_append] at ha
    rcases ha with ha | ha
    · cases o1
      · simpa [errT] using ha
      · exact absurd ha (by simp [errT])
    · rcases hq with h | ⟨rfl, rfl⟩
      · exact h.2.2 a ha
      · cases ha
theorem none_err {W : World} {x : Value × List Addr} (h : OErr W x) (hn : nn x = false) : x = (.nilIface, []) := by
  rcases h with h | ⟨t, v, e, _⟩
  · exact h
  · rw [nn_yes e] at hn; cases hn
def RYes (b : Nat) (r : Option FldD) (w : World) (e : Ending) (w' : World) : Prop := e = .returned .nilIface ∧ ∃ (k sz tm : Int) (tx : ByteArray), BoxP w' b k (bs []) 0 sz tm tx (.slice none 0 0) ∧ r = some (k, sz, tm, tx) ∧ w.grownBy w' (some b)
def RNo (A : Ads) (b : Nat) (w : World) (e : Ending) (w' : World) : Prop := ∃ (t : TypeId) (v : Value) (S : List Addr), e = .returned (.iface t v) ∧ OErr w' (.iface t v, S) ∧ TextErr A (.iface t v, S) ∧ ∃ (k sz tm : Int) (tx : ByteArray), BoxP w' b k (bs []) 0 sz tm tx (.slice none 0 0) ∧ w.grownBy w' (some b)
theorem rd_cases {A : Ads} {b : Nat} {r : Option FldD} {w w' : World} {e : Ending} (h : RdPost A b r w e w') : (r.isSome = true → RYes b r w e w') ∧ (r.isSome = false → RNo A b w e w') := by
  obtain ⟨p, k, sz, tm, tx, rfl, ho, hb, hc, hg⟩ := h
  refine ⟨fun hr => ?_, fun hr => ?_⟩
  · obtain ⟨f, hf⟩ := Option.isSome_iff_exists.1 hr
    subst hf
    obtain ⟨rfl, rfl⟩ := hc
    exact ⟨rfl, k, sz, tm, tx, hb, rfl, hg⟩
  · have hf : r = none := by simpa using hr
    subst hf
    rcases ho with h | ⟨t, v, e, h⟩
    · rw [h] at hc; exact absurd hc.2.1 (by simp)
    · obtain ⟨p1, p2⟩ := p
      cases e
      exact ⟨t, v, p2, rfl, .inr ⟨t, v, rfl, h⟩, hc, k, sz, tm, tx, hb, hg⟩
end Go.Proofs.YtconbmfbokpklaaGreatDoor
