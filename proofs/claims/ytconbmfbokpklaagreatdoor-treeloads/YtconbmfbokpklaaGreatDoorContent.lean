/- The reader of a line 't'. -/
import Derived.Test.YtconbmfbokpklaaGreatDoorReaders
namespace Go.Proofs.YtconbmfbokpklaaGreatDoor
open Go.RowKit

/-- errT, its value written out. -/
def eV (A : Ads) : Bool → Value
  | true => .nilIface
  | false => .iface 207 (.pointer (some A.t))
theorem eV_errT (A : Ads) (ok : Bool) : (errT A ok).1 = eV A ok := by cases ok <;> rfl
theorem ErrV.keepSet {W W' : World} {v : Value} {S : List Addr} {b i : Nat} {k : Int} {nm : ByteArray} {up sz tm : Int} {tx : ByteArray} {kv u : Value} (h : ErrV W v S) (hb : BoxP W b k nm up sz tm tx kv) (hW : W' = W.setCell ⟨b, i, none⟩ u) : ErrV W' v S := by
  have hb2 : W.heap[b]? = _ := hb
  have other : ∀ (c : Nat) (o : Obj), W.heap[c]? = some o → c ≠ b → W'.heap[c]? = some o := by
    intro c o hc hne
    rw [hW]
    exact ((set_grown W b i u).block c (Array.getElem?_eq_some_iff.1 hc).1 (fun e => hne (Option.some.inj e))).trans hc
  induction h with
  | leaf a c t ha =>
    by_cases e : a.block = b
    · rw [e, hb2] at ha
      cases ha
      have hlt := (Array.getElem?_eq_some_iff.1 hb2).1
      have hk := (Array.getElem?_eq_some_iff.1 hb2).2
      have h3 : W'.heap[a.block]? = some (.cells ((#[.int .u8 k, .string nm, .int .i64 up, .int .i64 sz, .int .i64 tm, .string tx, kv] : Array Value).setIfInBounds i u) 33 (0, 0)) := by
        rw [e, hW]
        show (W.heap.modify b _)[b]? = _
        rw [Array.getElem?_eq_getElem (by rw [Array.size_modify]; exact hlt), Array.getElem_modify_self, hk]
        rfl
      exact .leaf a _ 33 h3
    · exact .leaf a c t (other a.block _ ha e)
  | join c g cap es cur hc hg hcc hl hcap _ ih =>
    refine .join c g cap es cur (other c _ hc ?_) (other g _ hg ?_) hcc hl hcap ih
    · intro e; rw [e, hb2] at hc; cases hc
    · intro e; rw [e, hb2] at hg; cases hg
def JoinHas (A : Ads) (o1 o2 : Bool) (w2 : World) (v : Value) (w' : World) : Prop := ∃ p : Value × List Addr, v = p.1 ∧ OErr w' p ∧ p.2 = [errT A o1, errT A o2].flatMap (·.2) ∧ nn p = !(([errT A o1, errT A o2].filter nn).isEmpty) ∧ Below w2.heap.size w2 w'
/-- What is left behind the two. -/
theorem content_join {A : Ads} {b : Nat} {o1 o2 : Bool} {sz tm : Int} {tx : ByteArray} {w w3 W : World} {p : Value × List Addr} {r : Option FldD} (hW : W = w3.setCell ⟨b, 3, none⟩ (.int .i64 (tx.size : Int)))
    (hb3 : BoxP w3 b 102 (bs []) 0 sz tm tx (.slice none 0 0)) (ho : OErr w3 p) (hp2 : p.2 = [errT A o1, errT A o2].flatMap (·.2)) (hnn : nn p = !(([errT A o1, errT A o2].filter nn).isEmpty)) (hg : w.grownBy w3 (some b))
    (hyes : o1 = true → o2 = true → r = some (102, (tx.size : Int), tm, tx)) (hno : (o1 && o2) = false → r = none) : RdPost A b r w (.returned p.1) W := by
  have hbx : BoxP W b 102 (bs []) 0 (tx.size : Int) tm tx (.slice none 0 0) := by rw [hW]; exact hb3.set3 _
  have hgW : w.grownBy W (some b) := by rw [hW]; exact hg.trans (set_grown _ _ _ _)
  have hoW : OErr W p := by
    rcases ho with h | ⟨t, v, e, h⟩
    · exact .inl h
    · exact .inr ⟨t, v, e, h.keepSet hb3 hW⟩
  refine ⟨p, 102, (tx.size : Int), tm, tx, rfl, hoW, hbx, ?_, hgW⟩
  cases o1
  · rw [hno rfl]
    refine ⟨by rw [hnn]; cases o2 <;> rfl, by rw [hp2]; cases o2 <;> simp [errT], fun a ha => ?_⟩
    rw [hp2] at ha
    cases o2 <;> simpa [errT] using ha
  · cases o2
    · rw [hno rfl]
      refine ⟨by rw [hnn]; rfl, by rw [hp2]; simp [errT], fun a ha => ?_⟩
      rw [hp2] at ha
      simpa [errT] using ha
    · rw [hyes rfl rfl]
      refine ⟨?_, rfl⟩
      rcases ho with h | ⟨t, v, e, h⟩
      · exact h
      · exfalso
        have : nn p = true := nn_yes e
        rw [hnn] at this
        cases this
end Go.Proofs.YtconbmfbokpklaaGreatDoor
