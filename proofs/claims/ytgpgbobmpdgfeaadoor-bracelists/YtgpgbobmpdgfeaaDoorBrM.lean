/- A region in any order, by an invariant, inside a fence. -/
import Derived.Test.YtgpgbobmpdgfeaaDoorBrK
namespace Go.Proofs.YtgpgbobmpdgfeaaDoor
open Go.RowKit Go.Shelf

section
variable {P : Program} {ops : Array Oper} {Q : Exit → Act → World → Prop} {md : Region.Mode} {F : Fence} {n : Nat}
def unl (listed : Array Bool) : Nat := listed.toList.countP (fun b => !b)
theorem unl_set {listed : Array Bool} {i : Nat} (h : listed.getD i true = false) : unl (listed.setIfInBounds i true) + 1 = unl listed := by
  obtain ⟨l⟩ := listed
  unfold unl
  have h' : l.getD i true = false := by simpa [Array.getD_eq_getD_getElem?, List.getD_eq_getElem?_getD] using h
  clear h
  simp only [List.setIfInBounds_toArray]
  induction l generalizing i with
  | nil => simp at h'
  | cons x l ih =>
    match i with
    | 0 =>
      simp at h'
      subst h'
      simp
    | i + 1 =>
      have := ih (i := i) (by simpa using h')
      simp only [List.set_cons_succ, List.countP_cons]
      omega
theorem ready_mem {listed : Array Bool} {i : Nat} (h : i ∈ Region.ready md ops listed) : ∃ o, ops[i]? = some o ∧ listed.getD i true = false ∧ ∀ e ∈ o.after, Region.binds md e = true → listed.getD e.on false = true := by
  unfold Region.ready at h
  rw [List.mem_filter] at h
  obtain ⟨h1, h2⟩ := h
  rw [List.mem_range] at h1
  refine ⟨ops[i], Array.getElem?_eq_getElem h1, ?_, ?_⟩
  · rw [Bool.and_eq_true] at h2
    simpa using h2.1
  · rw [Bool.and_eq_true, Array.getElem?_eq_getElem h1] at h2
    have h3 := h2.2
    simp only [Option.map_some, Option.getD_some, Array.all_eq_true_iff_forall_mem] at h3
    intro e he hb
    have := h3 e he
    simpa [hb] using this
theorem wpAnyIn_inv {I : Array Bool → Act → World → Prop}
    (hend : ∀ listed a w, I listed a w → Region.ready md ops listed = [] → Q .normal a w)
    (hstep : ∀ listed a w i o, I listed a w → ops[i]? = some o → listed.getD i true = false → (∀ e ∈ o.after, Region.binds md e = true → listed.getD e.on false = true) →
      ∀ K' : Act → World → Prop, (∀ a' w', I (listed.setIfInBounds i true) a' w' → K' a' w') → if Region.wanted o (yielded ops a.tmps) = true then o.wpIn F n P a w K' Q else (∀ f, o.about P w a.eval = some f → F.fn f) ∧ K' (a.put o.dst undef) w) :
    ∀ (fuel : Nat) (listed : Array Bool) (a : Act) (w : World), unl listed ≤ fuel → I listed a w → wpAnyIn F n P md ops Q fuel listed a w := by
  intro fuel
  induction fuel with
  | zero =>
    intro listed a w hu hI
    have hr : Region.ready md ops listed = [] := by
      cases hr : Region.ready md ops listed with
      | nil => rfl
      | cons i rs =>
        obtain ⟨o, _, h2, _⟩ := ready_mem (md := md) (ops := ops) (listed := listed) (i := i) (by rw [hr]; simp)
        have := unl_set h2
        omega
    exact ⟨hr, hend _ _ _ hI hr⟩
  | succ fuel ih =>
    intro listed a w hu hI
    refine ⟨fun hr => hend _ _ _ hI hr, fun i hi => ?_⟩
    obtain ⟨o, h1, h2, h3⟩ := ready_mem hi
    have hs := unl_set h2
    have hst := hstep listed a w i o hI h1 h2 h3 (wpAnyIn F n P md ops Q fuel (listed.setIfInBounds i true)) (fun a' w' h => ih _ a' w' (by omega) h)
    unfold wpOpIn
    rw [h1]
    exact hst
end
def fl (listed : Array Bool) (k : Nat) : Bool := listed.getD k false
theorem fl_ne {listed : Array Bool} {i k : Nat} (hk : k ≠ i) : fl (listed.setIfInBounds i true) k = fl listed k := by
  unfold fl
  rw [Array.getD_eq_getD_getElem?, Array.getD_eq_getD_getElem?, Array.getElem?_setIfInBounds_ne (fun e => hk e.symm)]
theorem fl_self {listed : Array Bool} {i : Nat} (h : i < listed.size) : fl (listed.setIfInBounds i true) i = true := by
  unfold fl
  rw [Array.getD_eq_getD_getElem?, Array.getElem?_setIfInBounds_self_of_lt h]
  rfl
theorem fl_none (n k : Nat) : fl (Array.replicate n false) k = false := by
  unfold fl
  rw [Array.getD_eq_getD_getElem?, Array.getElem?_replicate]
  split <;> rfl
theorem fl_not {listed : Array Bool} {i : Nat} (h : listed.getD i true = false) : fl listed i = false := by
  unfold fl
  rw [Array.getD_eq_getD_getElem?] at h ⊢
  cases e : listed[i]? with
  | none => rw [e] at h; simp at h
  | some x => rw [e] at h; simpa using h
theorem after_ok' {ops : Array Oper} (h : ((List.range ops.size).all fun i => (ops[i]?).all fun o => o.after.all fun e => !(Region.binds .any e) || decide (e.on < i)) = true) : ∀ (i : Nat) (o : Oper), ops[i]? = some o → ∀ e ∈ o.after, Region.binds .any e = true → e.on < i := by
  intro i o ho e he hb
  rw [List.all_eq_true] at h
  have h1 := h i (List.mem_range.2 (Array.getElem?_eq_some_iff.1 ho).1)
  rw [ho] at h1
  simp only [Option.all_some, Array.all_eq_true_iff_forall_mem] at h1
  have := h1 e he
  rw [hb] at this
  simpa using this
theorem all_listed' {ops : Array Oper} {listed : Array Bool} (hs : listed.size = ops.size) (hr : Region.ready .any ops listed = []) (ha : ∀ (i : Nat) (o : Oper), ops[i]? = some o → ∀ e ∈ o.after, Region.binds .any e = true → e.on < i) : ∀ i, i < ops.size → listed.getD i false = true := by
  intro i
  induction i using Nat.strongRecOn with
  | ind i ih =>
    intro hi
    cases hl : listed.getD i false with
    | true => rfl
    | false =>
      have hl' : listed.getD i true = false := by
        rw [Array.getD_eq_getD_getElem?, Array.getElem?_eq_getElem (by omega)] at hl ⊢
        exact hl
      have : i ∈ Region.ready .any ops listed := by
        unfold Region.ready
        rw [List.mem_filter, List.mem_range]
        refine ⟨hi, ?_⟩
        rw [hl', Array.getElem?_eq_getElem hi]
        simp only [Bool.not_false, Bool.true_and, Option.map_some, Option.getD_some, Array.all_eq_true_iff_forall_mem]
        intro e he
        cases hb : Region.binds .any e with
        | false => simp
        | true =>
          have hlt := ha i ops[i] (Array.getElem?_eq_getElem hi) e he hb
          rw [ih e.on hlt (by omega)]
          simp
      rw [hr] at this
      cases this
theorem st_valIn {l n : Nat} {P : Program} {ops : Array Oper} {Q : Exit → Act → World → Prop} {o : Oper} {a : Act} {w w' : World} {K : Act → World → Prop} {E : Prop} {v : Value} (hg : o.guard = none) (hd : ∀ c, o.op ≠ .defer c) (he : (execOp a.eval o).run P w = .ok (.value v) w') (hk : K (a.put o.dst v) w') :
    if Region.wanted o (yielded ops a.tmps) = true then o.wpIn (Fence.wide.inRound l) n P a w K Q else E := by
  have hw : Region.wanted o (yielded ops a.tmps) = true := by simp [Region.wanted, hg]
  rw [if_pos hw]
  refine ⟨fun _ _ => trivial, ?_⟩
  show Oper.uponIn _ _ _ _ _ _ _ ((Oper.semAt (some l) a.eval o).run P w)
  rw [Oper.semAt_some l a.eval o hd, he]
  exact hk
theorem st_skpIn {l n : Nat} {P : Program} {ops : Array Oper} {Q : Exit → Act → World → Prop} {o : Oper} {a : Act} {w w' : World} {K : Act → World → Prop} {E : Prop} (hg : o.guard = none) (hd : ∀ c, o.op ≠ .defer c) (he : (execOp a.eval o).run P w = .ok .skip w') (hk : K (a.put o.dst undef) w') :
    if Region.wanted o (yielded ops a.tmps) = true then o.wpIn (Fence.wide.inRound l) n P a w K Q else E := by
  have hw : Region.wanted o (yielded ops a.tmps) = true := by simp [Region.wanted, hg]
  rw [if_pos hw]
  refine ⟨fun _ _ => trivial, ?_⟩
  show Oper.uponIn _ _ _ _ _ _ _ ((Oper.semAt (some l) a.eval o).run P w)
  rw [Oper.semAt_some l a.eval o hd, he]
  exact hk
theorem st_rndIn {l n : Nat} {P : Program} {ops : Array Oper} {Q : Exit → Act → World → Prop} {o : Oper} {a : Act} {w : World} {K : Act → World → Prop} {E : Prop} {l2 : Nat} {fn : FuncId} {tmps : Array Value} {assign body : Code} {R : Bool → World → Prop} (hg : o.guard = none) (hd : ∀ c, o.op ≠ .defer c) (he : (execOp a.eval o).run P w = .ok (.round l2 fn tmps assign body) w)
    (hR : RoundIn Fence.wide 0 P l2 fn tmps assign body w fun e A' => ∃ t, e = .returned (.bool t) ∧ R t A') (hk : ∀ t A', R t A' → K (a.put o.dst (.bool t)) A') :
    if Region.wanted o (yielded ops a.tmps) = true then o.wpIn (Fence.wide.inRound l) n P a w K Q else E := by
  have hw : Region.wanted o (yielded ops a.tmps) = true := by simp [Region.wanted, hg]
  rw [if_pos hw]
  refine ⟨fun _ _ => trivial, ?_⟩
  show Oper.uponIn _ _ _ _ _ _ _ ((Oper.semAt (some l) a.eval o).run P w)
  rw [Oper.semAt_some l a.eval o hd, he]
  rw [Oper.uponIn_round]
  refine ⟨fun h => (by cases h), ?_⟩
  refine RoundIn.mono (F := Fence.wide) (roundIn_any hR) ?_
  rintro e A' ⟨t, rfl, hr⟩
  exact hk t A' hr
theorem st_valW {n : Nat} {P : Program} {ops : Array Oper} {Q : Exit → Act → World → Prop} {o : Oper} {a : Act} {w w' : World} {K : Act → World → Prop} {E : Prop} {v : Value} (hg : o.guard = none) (he : (execOp a.eval o).run P w = .ok (.value v) w') (hk : K (a.put o.dst v) w') :
    if Region.wanted o (yielded ops a.tmps) = true then o.wpIn Fence.wide n P a w K Q else E := by
  have hw : Region.wanted o (yielded ops a.tmps) = true := by simp [Region.wanted, hg]
  rw [if_pos hw]
  refine ⟨fun _ _ => trivial, ?_⟩
  show Oper.uponIn _ _ _ _ _ _ _ ((Oper.semAt none a.eval o).run P w)
  rw [show Oper.semAt none a.eval o = execOp a.eval o from rfl, he]
  exact hk
theorem st_skpW {n : Nat} {P : Program} {ops : Array Oper} {Q : Exit → Act → World → Prop} {o : Oper} {a : Act} {w w' : World} {K : Act → World → Prop} {E : Prop} (hg : o.guard = none) (he : (execOp a.eval o).run P w = .ok .skip w') (hk : K (a.put o.dst undef) w') :
    if Region.wanted o (yielded ops a.tmps) = true then o.wpIn Fence.wide n P a w K Q else E := by
  have hw : Region.wanted o (yielded ops a.tmps) = true := by simp [Region.wanted, hg]
  rw [if_pos hw]
  refine ⟨fun _ _ => trivial, ?_⟩
  show Oper.uponIn _ _ _ _ _ _ _ ((Oper.semAt none a.eval o).run P w)
  rw [show Oper.semAt none a.eval o = execOp a.eval o from rfl, he]
  exact hk
theorem st_rndW {n : Nat} {P : Program} {ops : Array Oper} {Q : Exit → Act → World → Prop} {o : Oper} {a : Act} {w : World} {K : Act → World → Prop} {E : Prop} {l2 : Nat} {fn : FuncId} {tmps : Array Value} {assign body : Code} {R : Bool → World → Prop} (hg : o.guard = none) (he : (execOp a.eval o).run P w = .ok (.round l2 fn tmps assign body) w)
    (hR : RoundIn Fence.wide 0 P l2 fn tmps assign body w fun e A' => ∃ t, e = .returned (.bool t) ∧ R t A') (hk : ∀ t A', R t A' → K (a.put o.dst (.bool t)) A') :
    if Region.wanted o (yielded ops a.tmps) = true then o.wpIn Fence.wide n P a w K Q else E := by
  have hw : Region.wanted o (yielded ops a.tmps) = true := by simp [Region.wanted, hg]
  rw [if_pos hw]
  refine ⟨fun _ _ => trivial, ?_⟩
  show Oper.uponIn _ _ _ _ _ _ _ ((Oper.semAt none a.eval o).run P w)
  rw [show Oper.semAt none a.eval o = execOp a.eval o from rfl, he]
  rw [Oper.uponIn_round]
  refine ⟨fun h => (by cases h), ?_⟩
  refine RoundIn.mono (F := Fence.wide) (roundIn_any hR) ?_
  rintro e A' ⟨t, rfl, hr⟩
  exact hk t A' hr
/-- What is listed has what it waits for listed. -/
def Closed (ops : Array Oper) (listed : Array Bool) : Prop := ∀ i o, ops[i]? = some o → fl listed i = true → ∀ e ∈ o.after, Region.binds .any e = true → fl listed e.on = true
theorem region_inv {P : Program} {ops : Array Oper} {Q : Exit → Act → World → Prop} {F : Fence} {n id : Nat} {a : Act} {w : World} (I : Array Bool → Act → World → Prop) (hm : P.follows .mixedOrders = true)
    (hafter : ((List.range ops.size).all fun i => (ops[i]?).all fun o => o.after.all fun e => !(Region.binds .any e) || decide (e.on < i)) = true)
    (hend : ∀ listed a w, (∀ i, i < ops.size → fl listed i = true) → I listed a w → Q .normal a w)
    (hstep : ∀ listed a w i o, listed.size = ops.size → Closed ops listed → I listed a w → ops[i]? = some o → fl listed i = false → (∀ e ∈ o.after, Region.binds .any e = true → fl listed e.on = true) →
      ∀ K' : Act → World → Prop, (∀ a' w', I (listed.setIfInBounds i true) a' w' → K' a' w') → if Region.wanted o (yielded ops a.tmps) = true then o.wpIn F n P a w K' Q else (∀ f, o.about P w a.eval = some f → F.fn f) ∧ K' (a.put o.dst undef) w)
    (h0 : I (Array.replicate ops.size false) a w.drew) : (Code.region id ops true).wpIn F n P Q a w := by
  refine wpIn_region_any hm (wpAnyIn_inv (I := fun listed a w => listed.size = ops.size ∧ Closed ops listed ∧ I listed a w) ?_ ?_ _ _ _ _ ?_ ⟨by simp, ?_, h0⟩)
  · rintro listed a w ⟨hs, _, hI⟩ hr
    exact hend listed a w (all_listed' hs hr (after_ok' hafter)) hI
  · rintro listed a w i o ⟨hs, hc, hI⟩ ho hi hdep K' hK
    refine hstep listed a w i o hs hc hI ho (fl_not hi) hdep K' (fun a' w' h => hK a' w' ⟨by rw [Array.size_setIfInBounds]; exact hs, ?_, h⟩)
    intro j o' hj hl e he hb
    have hne : e.on ≠ i → fl (listed.setIfInBounds i true) e.on = fl listed e.on := fun h => fl_ne h
    by_cases e1 : e.on = i
    · rw [e1]
      exact fl_self (by rw [hs]; exact (Array.getElem?_eq_some_iff.1 ho).1)
    · rw [hne e1]
      by_cases e2 : j = i
      · subst e2
        rw [ho] at hj
        cases hj
        exact hdep e he hb
      · rw [fl_ne e2] at hl
        exact hc j o' hj hl e he hb
  · unfold unl
    have := List.countP_le_length (p := fun b => !b) (l := (Array.replicate ops.size false).toList)
    simpa using this
  · intro i o _ hl
    rw [fl_none] at hl
    cases hl
end Go.Proofs.YtgpgbobmpdgfeaaDoor
