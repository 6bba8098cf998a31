import Derived.Test.YtfemboojdablhaaGreatDoorMi10
import Derived.Test.YtfemboojdablhaaGreatDoorMi09
import Derived.RangeFuncOwn
import Derived.Laws.EntriesVeiled
namespace Go.Proofs.YtfemboojdablhaaGreatDoor
open Go.RowKit Go.Maps
section
variable {P : Program} {ops : Array Oper} {Q : Exit → Act → World → Prop} {md : Region.Mode}
def unl (listed : Array Bool) : Nat := listed.toList.countP (fun b => !b)
theorem unl_set {listed : Array Bool} {i : Nat} (h : listed.getD i true = false) : unl (listed.setIfInBounds i true) + 1 = unl listed := by
  obtain ⟨l⟩ := listed
  unfold unl
  have h' : l.getD i true = false := by simpa [Array.getD_eq_getD_getElem?, List.getD_eq_getElem?_getD] using h
  clear h
  simp only [List.setIfInBounds_toArray]
  induction l generalizing i with
  | nil => simp at h'
  | cons x l ih =>
    match i with
    | 0 =>
      simp at h'
      subst h'
      simp
    | i + 1 =>
      have := ih (i := i) (by simpa using h')
      simp only [List.set_cons_succ, List.countP_cons]
      omega
theorem ready_mem {listed : Array Bool} {i : Nat} (h : i ∈ Region.ready md ops listed) : ∃ o, ops[i]? = some o ∧ listed.getD i true = false ∧ ∀ e ∈ o.after, Region.binds md e = true → listed.getD e.on false = true := by
  unfold Region.ready at h
  rw [List.mem_filter] at h
  obtain ⟨h1, h2⟩ := h
  rw [List.mem_range] at h1
  refine ⟨ops[i], Array.getElem?_eq_getElem h1, ?_, ?_⟩
  · rw [Bool.and_eq_true] at h2
    simpa using h2.1
  · rw [Bool.and_eq_true, Array.getElem?_eq_getElem h1] at h2
    have h3 := h2.2
    simp only [Option.map_some, Option.getD_some, Array.all_eq_true_iff_forall_mem] at h3
    intro e he hb
    have := h3 e he
    simpa [hb] using this
theorem wpAny_inv {I : Array Bool → Act → World → Prop}
    (hend : ∀ listed a w, I listed a w → Region.ready md ops listed = [] → Q .normal a w)
    (hstep : ∀ listed a w i o, I listed a w → ops[i]? = some o → listed.getD i true = false → (∀ e ∈ o.after, Region.binds md e = true → listed.getD e.on false = true) →
      ∀ K' : Act → World → Prop, (∀ a' w', I (listed.setIfInBounds i true) a' w' → K' a' w') → if Region.wanted o (yielded ops a.tmps) = true then Oper.wp P o a w K' Q else K' (a.put o.dst undef) w) :
    ∀ (fuel : Nat) (listed : Array Bool) (a : Act) (w : World), unl listed ≤ fuel → I listed a w → wpAny P md ops Q fuel listed a w := by
  intro fuel
  induction fuel with
  | zero =>
    intro listed a w hu hI
    have hr : Region.ready md ops listed = [] := by
      cases hr : Region.ready md ops listed with
      | nil => rfl
      | cons i rs =>
        obtain ⟨o, _, h2, _⟩ := ready_mem (md := md) (ops := ops) (listed := listed) (i := i) (by rw [hr]; simp)
        have := unl_set h2
        omega
    exact ⟨hr, hend _ _ _ hI hr⟩
  | succ fuel ih =>
    intro listed a w hu hI
    refine ⟨fun hr => hend _ _ _ hI hr, fun i hi => ?_⟩
    obtain ⟨o, h1, h2, h3⟩ := ready_mem hi
    have hs := unl_set h2
    refine wpOp_step h1 fun K' hK => hstep listed a w i o hI h1 h2 h3 K' (fun a' w' h => hK a' w' (ih _ a' w' (by omega) h))
end
def fnRd : Value → Option (DataW Unit × List MemPlace)
  | .func (.func f) xs ys => match xs.toList, ys.toList with
    | [], [.pointer (some ⟨b1, 0, none⟩)] => some (.agg [.lit (.int .i64 (f : Int)), .lit (.int .i64 (b1 : Int))], [])
    | [], [.pointer (some ⟨b1, 0, none⟩), .pointer (some ⟨b2, 0, none⟩)] => some (.agg [.lit (.int .i64 (f : Int)), .lit (.int .i64 (b1 : Int)), .lit (.int .i64 (b2 : Int))], [])
    | _, _ => none
  | .nilFunc => some (.lit (.int .i64 0), [])
  | _ => none
theorem FnIs.read {B : Nat} {w : World} {v : Value} {f : BSet} (h : FnIs B w v f) : ∃ d, fnRd v = some (d, []) := by
  cases h with
  | span b1 b2 => exact ⟨_, rfl⟩
  | either b => exact ⟨_, rfl⟩
  | but b1 b2 => exact ⟨_, rfl⟩
theorem fnRd_inj {v v' : Value} {d : DataW Unit} {ps ps' : List MemPlace} (h : fnRd v = some (d, ps)) (h' : fnRd v' = some (d, ps')) : v = v' := by
  have key : ∀ (v : Value) (d : DataW Unit) (ps : List MemPlace), fnRd v = some (d, ps) → (v = .nilFunc ∧ d = .lit (.int .i64 0)) ∨ (∃ f b1, v = .func (.func f) #[] #[.pointer (some ⟨b1, 0, none⟩)] ∧ d = .agg [.lit (.int .i64 (f : Int)), .lit (.int .i64 (b1 : Int))]) ∨ (∃ f b1 b2, v = .func (.func f) #[] #[.pointer (some ⟨b1, 0, none⟩), .pointer (some ⟨b2, 0, none⟩)] ∧ d = .agg [.lit (.int .i64 (f : Int)), .lit (.int .i64 (b1 : Int)), .lit (.int .i64 (b2 : Int))]) := by
    intro v d ps h
    unfold fnRd at h
    split at h
    · rename_i f xs ys
      split at h
      · rename_i b1 e1 e2
        cases h
        refine .inr (.inl ⟨f, b1, ?_, rfl⟩)
        rw [← Array.toArray_toList (xs := xs), ← Array.toArray_toList (xs := ys), e1, e2]
      · rename_i b1 b2 e1 e2
        cases h
        refine .inr (.inr ⟨f, b1, b2, ?_, rfl⟩)
        rw [← Array.toArray_toList (xs := xs), ← Array.toArray_toList (xs := ys), e1, e2]
      · cases h
    · cases h; exact .inl ⟨rfl, rfl⟩
    · cases h
  rcases key v d ps h with ⟨rfl, e⟩ | ⟨f, b1, rfl, e⟩ | ⟨f, b1, b2, rfl, e⟩ <;> rcases key v' d ps' h' with ⟨rfl, e'⟩ | ⟨f', b1', rfl, e'⟩ | ⟨f', b1', b2', rfl, e'⟩ <;> rw [e] at e' <;> simp at e'
  · obtain ⟨h1, h2⟩ := e'
    have e1 : f = f' := Int.ofNat.inj h1
    have e2 : b1 = b1' := Int.ofNat.inj h2
    rw [e1, e2]
  · obtain ⟨h1, h2, h3⟩ := e'
    have e1 : f = f' := Int.ofNat.inj h1
    have e2 : b1 = b1' := Int.ofNat.inj h2
    have e3 : b2 = b2' := Int.ofNat.inj h3
    rw [e1, e2, e3]
structure MapGood (B : Nat) (w : World) (D : DataW Unit) : Prop where
  isMap : IsMap D
  good : ∀ n, has D (lt n) = true → ∃ f v d, classD n = some f ∧ fnRd v = some (d, []) ∧ (∀ z, D.atKey (lt n) z = d) ∧ FnIs B w v f
theorem has_nil (n : List UInt8) : has (DataW.map [] : DataW Unit) (lt n) = false := rfl
theorem MapGood.nil (B : Nat) (w : World) : MapGood B w (.map []) := ⟨isMap_empty, fun n h => by rw [has_nil] at h; cases h⟩
theorem MapGood.keep {B : Nat} {w w' : World} {D : DataW Unit} (h : MapGood B w D) (hk : KC 0 w w') : MapGood B w' D :=
  ⟨h.isMap, fun n hn => by
    obtain ⟨f, v, d, h1, h2, h3, h4⟩ := h.good n hn
    exact ⟨f, v, d, h1, h2, h3, h4.keep (fun a v _ e => hk a v (Nat.zero_le _) e)⟩⟩
theorem MapGood.put {B : Nat} {w : World} {D : DataW Unit} (h : MapGood B w D) {n : List UInt8} {f : BSet} {v : Value} {d : DataW Unit} (hc : classD n = some f) (hv : fnRd v = some (d, [])) (hf : FnIs B w v f) : MapGood B w (D.put (lt n) d) :=
  ⟨h.isMap.put _ _, fun m hm => by
    by_cases e : m = n
    · subst e
      exact ⟨f, v, d, hc, hv, fun z => atKey_put_same h.isMap keyLitS _ _, hf⟩
    · rw [has_put_other (lt_ne e)] at hm
      obtain ⟨f', v', d', h1, h2, h3, h4⟩ := h.good m hm
      exact ⟨f', v', d', h1, h2, fun z => by rw [atKey_put_other (lt_ne e)]; exact h3 z, h4⟩⟩
theorem has_put_mono {D : DataW Unit} (hD : IsMap D) {n m : List UInt8} {d : DataW Unit} (h : has D (lt m) = true) : has (D.put (lt n) d) (lt m) = true := by
  by_cases e : m = n
  · subst e; exact has_put_same hD keyLitS _
  · rw [has_put_other (lt_ne e)]; exact h
inductive Claim where
  | fn (d : Nat) (f : BSet)
  | row (d : Nat) (fs : List BSet)
  | key (n : List UInt8)
  | mp (d : Nat)
def Claim.dst : Claim → Option Nat
  | .fn d _ => some d
  | .row d _ => some d
  | .key _ => none
  | .mp d => some d
def RowOf (B : Nat) (w : World) (v : Value) (fs : List BSet) : Prop :=
  ∃ (g c : Nat) (vs : List Value), v = .slice (some ⟨g, 0, none⟩) vs.length c ∧ B ≤ g ∧ fs.length = vs.length ∧ vs.length ≤ 100 ∧ (∀ (i : Nat) (v : Value), vs[i]? = some v → w.cell? ⟨g, i, none⟩ = some v) ∧ ∀ (i : Nat) (v : Value) (f' : BSet), vs[i]? = some v → fs[i]? = some f' → FnIs B w v f'
theorem RowOf.keep {B : Nat} {w w' : World} {v : Value} {fs : List BSet} (h : RowOf B w v fs) (hk : KC 0 w w') : RowOf B w' v fs := by
  obtain ⟨g, c, vs, h1, h2, h3, h4, h5, h6⟩ := h
  exact ⟨g, c, vs, h1, h2, h3, h4, fun i v hv => hk _ _ (Nat.zero_le _) (h5 i v hv), fun i v f' a b => (h6 i v f' a b).keep (fun a v _ e => hk a v (Nat.zero_le _) e)⟩
def Claim.ok (B : Nat) (a : Act) (w : World) (bm : Nat) (D : DataW Unit) : Claim → Prop
  | .fn d f => ∃ v, a.tmps[d]? = some v ∧ FnIs B w v f
  | .row d fs => ∃ v, a.tmps[d]? = some v ∧ RowOf B w v fs
  | .key n => has D (lt n) = true
  | .mp d => a.tmps[d]? = some (.map (some bm)) ∧ ∃ es c, w.heap[bm]? = some (.map es c)
theorem put_get {a : Act} {dst : Option Nat} {v : Value} {d : Nat} (h : dst ≠ some d) : (a.put dst v).tmps[d]? = a.tmps[d]? := by
  cases dst with
  | none => rfl
  | some e =>
    show (a.tmps.setIfInBounds e v)[d]? = _
    rw [Array.getElem?_setIfInBounds_ne (fun x => h (by rw [x]))]
theorem put_same {a : Act} {v : Value} {d : Nat} (h : d < a.tmps.size) : (a.put (some d) v).tmps[d]? = some v := by
  show (a.tmps.setIfInBounds d v)[d]? = _
  rw [Array.getElem?_setIfInBounds_self_of_lt h]
theorem put_size {a : Act} {dst : Option Nat} {v : Value} : (a.put dst v).tmps.size = a.tmps.size := by
  cases dst with
  | none => rfl
  | some e => exact Array.size_setIfInBounds
theorem put_defers {a : Act} {dst : Option Nat} {v : Value} : (a.put dst v).defers = a.defers := by
  cases dst <;> rfl
theorem Claim.keep {B : Nat} {a : Act} {w w' : World} {bm : Nat} {D D' : DataW Unit} {c : Claim} {dst : Option Nat} {v : Value} (h : c.ok B a w bm D) (hd : ∀ d', c.dst = some d' → dst ≠ some d') (hk : KC 0 w w') (hm : ∀ es c, w.heap[bm]? = some (.map es c) → ∃ es c, w'.heap[bm]? = some (.map es c)) (hD : ∀ n, has D (lt n) = true → has D' (lt n) = true) : c.ok B (a.put dst v) w' bm D' := by
  cases c with
  | fn d f => obtain ⟨x, h1, h2⟩ := h; exact ⟨x, by rw [put_get (hd d rfl)]; exact h1, h2.keep (fun a v _ e => hk a v (Nat.zero_le _) e)⟩
  | row d fs => obtain ⟨x, h1, h2⟩ := h; exact ⟨x, by rw [put_get (hd d rfl)]; exact h1, h2.keep hk⟩
  | key n => exact hD n h
  | mp d => exact ⟨by rw [put_get (hd d rfl)]; exact h.1, by obtain ⟨es, c, e⟩ := h.2; exact hm es c e⟩
def xdigD : BSet := orD (orD digitD (spanD 65 70)) (spanD 97 102)
def spaceD : BSet := orD (spanD 9 13) (spanD 32 32)
def blankD : BSet := orD (spanD 9 9) (spanD 32 32)
def punctD : BSet := fun j => graphD j && !alnumD j
def cntrlD : BSet := orD (spanD 0 31) (spanD 127 127)
def claims : List Claim :=
  [.mp 19, .fn 20 alphaD, .key nmAlpha, .fn 21 digitD, .key nmDigit, .fn 22 alnumD, .key nmAlnum, .fn 23 upperD, .key nmUpper, .fn 24 lowerD, .key nmLower,
   .fn 25 digitD, .fn 26 (spanD 65 70), .fn 27 (spanD 97 102), .row 28 [digitD, spanD 65 70, spanD 97 102], .fn 29 xdigD, .key nmXdigit,
   .fn 30 (spanD 9 13), .fn 31 (spanD 32 32), .row 32 [spanD 9 13, spanD 32 32], .fn 33 spaceD, .key nmSpace,
   .fn 34 (spanD 9 9), .fn 35 (spanD 32 32), .row 36 [spanD 9 9, spanD 32 32], .fn 37 blankD, .key nmBlank,
   .fn 38 punctD, .key nmPunct, .fn 39 (spanD 32 126), .key nmPrint, .fn 40 graphD, .key nmGraph,
   .fn 41 (spanD 0 31), .fn 42 (spanD 127 127), .row 43 [spanD 0 31, spanD 127 127], .fn 44 cntrlD, .key nmCntrl, .mp 45, .mp 0]
def dsts : List (Option Nat) := claims.map Claim.dst
def lone (i : Nat) (dst : Option Nat) : Bool := (List.range 40).all (fun k => k == i || (dsts.getD k none).all (fun d => dst != some d)) && (List.range 6).all (fun d => dst != some (d + 1))
structure Stat (B : Nat) (w0 : World) (a : Act) (w : World) : Prop where
  size : a.tmps.size = 46
  defers : a.defers = []
  below : Below B w0 w
  hB : B ≤ w0.heap.size
  t1 : ∃ v, a.tmps[1]? = some v ∧ FnIs B w v upperD
  t2 : ∃ v, a.tmps[2]? = some v ∧ FnIs B w v lowerD
  t3 : ∃ v, a.tmps[3]? = some v ∧ FnIs B w v digitD
  t4 : ∃ v, a.tmps[4]? = some v ∧ FnIs B w v alphaD
  t5 : ∃ b v, a.tmps[5]? = some (ptr b) ∧ B ≤ b ∧ w.cell? ⟨b, 0, none⟩ = some v ∧ FnIs B w v alnumD
  t6 : ∃ b v, a.tmps[6]? = some (ptr b) ∧ B ≤ b ∧ w.cell? ⟨b, 0, none⟩ = some v ∧ FnIs B w v graphD
structure KCI (B : Nat) (w0 : World) (bm : Nat) (D : DataW Unit) (listed : Array Bool) (a : Act) (w : World) : Prop where
  stat : Stat B w0 a w
  map : (listed.getD 0 false = true ∧ B ≤ bm ∧ MapGood B w D ∧ ∃ n, w.ownsMap Tryz.prog 9 fnRd bm n D ∧ n + unl listed ≤ 100) ∨ (listed.getD 0 false = false ∧ D = .map [] ∧ ∃ x, w.cell? ⟨bm, 0, none⟩ = some x)
  cl : ∀ (k : Nat) (c : Claim), claims[k]? = some c → listed.getD k false = true → c.ok B a w bm D
theorem Stat.keep {B : Nat} {w0 : World} {a : Act} {w w' : World} {dst : Option Nat} {v : Value} (h : Stat B w0 a w) (hd : ∀ d, d < 6 → dst ≠ some (d + 1)) (hk : KC 0 w w') (hb : Below B w0 w') : Stat B w0 (a.put dst v) w' := by
  have kk : KC B w w' := fun a v _ e => hk a v (Nat.zero_le _) e
  refine ⟨put_size.trans h.size, put_defers.trans h.defers, hb, h.hB, ?_, ?_, ?_, ?_, ?_, ?_⟩
  · obtain ⟨x, e, f⟩ := h.t1; exact ⟨x, (put_get (hd 0 (by decide))).trans e, f.keep kk⟩
  · obtain ⟨x, e, f⟩ := h.t2; exact ⟨x, (put_get (hd 1 (by decide))).trans e, f.keep kk⟩
  · obtain ⟨x, e, f⟩ := h.t3; exact ⟨x, (put_get (hd 2 (by decide))).trans e, f.keep kk⟩
  · obtain ⟨x, e, f⟩ := h.t4; exact ⟨x, (put_get (hd 3 (by decide))).trans e, f.keep kk⟩
  · obtain ⟨b, x, e, hb, hc, f⟩ := h.t5; exact ⟨b, x, (put_get (hd 4 (by decide))).trans e, hb, hk _ _ (Nat.zero_le _) hc, f.keep kk⟩
  · obtain ⟨b, x, e, hb, hc, f⟩ := h.t6; exact ⟨b, x, (put_get (hd 5 (by decide))).trans e, hb, hk _ _ (Nat.zero_le _) hc, f.keep kk⟩
theorem lone_spec {i : Nat} {dst : Option Nat} (h : lone i dst = true) : (∀ k c d', claims[k]? = some c → k ≠ i → c.dst = some d' → dst ≠ some d') ∧ ∀ d, d < 6 → dst ≠ some (d + 1) := by
  unfold lone at h
  rw [Bool.and_eq_true, List.all_eq_true, List.all_eq_true] at h
  refine ⟨fun k c d' hc hk hd => ?_, fun d hd => by simpa using h.2 d (List.mem_range.2 hd)⟩
  have hlt : k < 40 := (List.getElem?_eq_some_iff.1 hc).1
  have := h.1 k (List.mem_range.2 hlt)
  have e : dsts.getD k none = some d' := by
    unfold dsts
    rw [List.getD_eq_getElem?_getD, List.getElem?_map, hc]
    exact hd
  rw [e] at this
  simpa [hk] using this
theorem listed_set {listed : Array Bool} {i k : Nat} (hk : k ≠ i) : (listed.setIfInBounds i true).getD k false = listed.getD k false := by
  rw [Array.getD_eq_getD_getElem?, Array.getD_eq_getD_getElem?, Array.getElem?_setIfInBounds_ne (fun e => hk e.symm)]
theorem kc_none {w w' : World} (hg : w.grownBy w' none) : KC 0 w w' := fun a v _ e => cell_kept e hg (fun r x => by cases x)
theorem KCI.grow {B : Nat} {w0 : World} {bm : Nat} {D : DataW Unit} {listed : Array Bool} {a : Act} {w w' : World} (h : KCI B w0 bm D listed a w) {i : Nat} {dst : Option Nat} {v : Value} {c : Claim} (hi : listed.getD i true = false) (h0 : i ≠ 0) (hl : lone i dst = true) (hg : w.grownBy w' none) (hc : claims[i]? = some c) (hok : c.ok B (a.put dst v) w' bm D) : KCI B w0 bm D (listed.setIfInBounds i true) (a.put dst v) w' := by
  obtain ⟨l1, l2⟩ := lone_spec hl
  have hk := kc_none hg
  have hu := unl_set hi
  have hb : Below B w0 w' := h.stat.below.grown hg (Nat.le_trans h.stat.hB h.stat.below.size) (fun k e => by cases e)
  refine ⟨h.stat.keep l2 hk hb, ?_, ?_⟩
  · rw [listed_set (fun e => h0 e.symm)]
    rcases h.map with ⟨m1, m2, m3, n, m4, m5⟩ | ⟨m1, m2, x, m3⟩
    · exact .inl ⟨m1, m2, m3.keep hk, n, m4.kept hg (by simp), by omega⟩
    · exact .inr ⟨m1, m2, x, hk _ _ (Nat.zero_le _) m3⟩
  · intro k c' hc' hlk
    by_cases e : k = i
    · subst e
      rw [hc] at hc'
      cases hc'
      exact hok
    · rw [listed_set e] at hlk
      exact Claim.keep (h.cl k c' hc' hlk) (fun d' hd => l1 k c' d' hc' e hd) hk (fun es c e => ⟨es, c, (hg.block bm (Array.getElem?_eq_some_iff.1 e).1 (by simp)).trans e⟩) (fun _ e => e)
end Go.Proofs.YtfemboojdablhaaGreatDoor
namespace Go.Proofs.YtfemboojdablhaaGreatDoor
open Go.RowKit Go.Maps
section
variable {ops : Array Oper} {Q : Exit → Act → World → Prop}
theorem st_val {o : Oper} {a : Act} {w w' : World} {K : Act → World → Prop} {E : Prop} {v : Value} (hg : o.guard = none) (he : (execOp a.eval o).run Tryz.prog w = .ok (.value v) w') (hk : K (a.put o.dst v) w') :
    if Region.wanted o (yielded ops a.tmps) = true then Oper.wp Tryz.prog o a w K Q else E := by
  have hw : Region.wanted o (yielded ops a.tmps) = true := by simp [Region.wanted, hg]
  rw [if_pos hw]
  unfold Oper.wp
  rw [he]
  exact hk
theorem st_skp {o : Oper} {a : Act} {w w' : World} {K : Act → World → Prop} {E : Prop} (hg : o.guard = none) (he : (execOp a.eval o).run Tryz.prog w = .ok .skip w') (hk : K (a.put o.dst undef) w') :
    if Region.wanted o (yielded ops a.tmps) = true then Oper.wp Tryz.prog o a w K Q else E := by
  have hw : Region.wanted o (yielded ops a.tmps) = true := by simp [Region.wanted, hg]
  rw [if_pos hw]
  unfold Oper.wp
  rw [he]
  exact hk
theorem ev_tmp {a : Act} {d : Nat} {v : Value} (h : a.tmps[d]? = some v) : a.eval (.tmp d) = v := by
  show a.tmps.getD d undef = v
  rw [Array.getD_eq_getD_getElem?, h]
  rfl
variable {B : Nat} {w0 : World} {bm : Nat} {D : DataW Unit} {listed : Array Bool} {a : Act} {w : World} {K : Act → World → Prop} {E : Prop} {i d : Nat} {o : Oper}
abbrev Goes (B : Nat) (w0 : World) (listed : Array Bool) (i : Nat) (K : Act → World → Prop) : Prop := ∀ a' w', (∃ bm D, KCI B w0 bm D (listed.setIfInBounds i true) a' w') → K a' w'
theorem grown_of_below {w w' : World} (h : Below w.heap.size w w') : w.grownBy w' none := ⟨h.os, h.tape, h.output, h.size, fun k hk _ => h.block k hk⟩
theorem s_move (h : KCI B w0 bm D listed a w) (hi : listed.getD i true = false) (hK : Goes B w0 listed i K) (s : Nat) (f : BSet) (hg : o.guard = none) (hop : o.op = .move (.tmp s)) (hd : o.dst = some d) (hdl : d < 46) (hs : ∃ v, a.tmps[s]? = some v ∧ FnIs B w v f) (h0 : i ≠ 0) (hl : lone i (some d) = true) (hc : claims[i]? = some (.fn d f)) :
    if Region.wanted o (yielded ops a.tmps) = true then Oper.wp Tryz.prog o a w K Q else E := by
  obtain ⟨v, e, hf⟩ := hs
  refine st_val (v := v) (w' := w) hg (by rw [BigFrame.run_move _ hop]; rw [ev_tmp e]) ?_
  rw [hd]
  exact hK _ _ ⟨bm, D, h.grow hi h0 hl (World.grownBy.refl _ _) hc ⟨v, put_same (by rw [h.stat.size]; exact hdl), hf⟩⟩
theorem s_load (h : KCI B w0 bm D listed a w) (hi : listed.getD i true = false) (hK : Goes B w0 listed i K) (s : Nat) (f : BSet) (hg : o.guard = none) (hop : o.op = .load 148 (.tmp s)) (hd : o.dst = some d) (hdl : d < 46) (hs : ∃ b v, a.tmps[s]? = some (ptr b) ∧ B ≤ b ∧ w.cell? ⟨b, 0, none⟩ = some v ∧ FnIs B w v f) (h0 : i ≠ 0) (hl : lone i (some d) = true) (hc : claims[i]? = some (.fn d f)) :
    if Region.wanted o (yielded ops a.tmps) = true then Oper.wp Tryz.prog o a w K Q else E := by
  obtain ⟨b, v, e, _, hcell, hf⟩ := hs
  have hag := Tryz.isAgg148
  refine st_val (v := v) (w' := w) hg ?_ ?_
  · simp only [execOp, hop, ev_tmp e, ptr]
    simp [go_sem, hcell, hag, Result.andThen]
  · rw [hd]
    exact hK _ _ ⟨bm, D, h.grow hi h0 hl (World.grownBy.refl _ _) hc ⟨v, put_same (by rw [h.stat.size]; exact hdl), hf⟩⟩
theorem s_span (h : KCI B w0 bm D listed a w) (hi : listed.getD i true = false) (hK : Goes B w0 listed i K) (lo hi' : Nat) (ts : Array TypeId) (hg : o.guard = none) (hop : o.op = .call { callee := .value (.func 300), args := #[.const (.int .u8 (lo : Int)), .const (.int .u8 (hi' : Int))], argTypes := ts }) (hd : o.dst = some d) (hdl : d < 46) (h0 : i ≠ 0) (hl : lone i (some d) = true) (hc : claims[i]? = some (.fn d (spanD lo hi'))) :
    if Region.wanted o (yielded ops a.tmps) = true then Oper.wp Tryz.prog o a w K Q else E := by
  have hB : B ≤ w.heap.size := Nat.le_trans h.stat.hB h.stat.below.size
  refine step_calls hg 300 _ ts hop #[.int .u8 (lo : Int), .int .u8 (hi' : Int)] (by simp only [List.map_toArray, List.map_cons, List.map_nil]; rfl) (enters_of Tryz.func300 (by kernel_rfl) rfl) (span_any lo hi' w) ?_
  rintro e w' ⟨v, rfl, hf, hb, _⟩
  refine ⟨v, rfl, ?_⟩
  rw [hd]
  exact hK _ _ ⟨bm, D, h.grow hi h0 hl (grown_of_below hb) hc ⟨v, put_same (by rw [h.stat.size]; exact hdl), hf.mono hB⟩⟩
theorem s_either (h : KCI B w0 bm D listed a w) (hi : listed.getD i true = false) (hK : Goes B w0 listed i K) (s : Nat) (fs : List BSet) (f : BSet) (ts : Array TypeId) (hg : o.guard = none) (hop : o.op = .call { callee := .value (.func 301), args := #[.tmp s], argTypes := ts }) (hd : o.dst = some d) (hdl : d < 46) (hs : ∃ v, a.tmps[s]? = some v ∧ RowOf B w v fs) (hf : ∀ j, f j = anyD fs j) (h0 : i ≠ 0) (hl : lone i (some d) = true) (hc : claims[i]? = some (.fn d f)) :
    if Region.wanted o (yielded ops a.tmps) = true then Oper.wp Tryz.prog o a w K Q else E := by
  have hB : B ≤ w.heap.size := Nat.le_trans h.stat.hB h.stat.below.size
  obtain ⟨v, e, g, c, vs, rfl, r2, r3, r4, r5, r6⟩ := hs
  refine step_calls hg 301 _ ts hop #[.slice (some ⟨g, 0, none⟩) vs.length c] (by simp only [List.map_toArray, List.map_cons, List.map_nil, ev_tmp e]) (enters_of Tryz.func301 (by kernel_rfl) rfl) (either_any B g c vs fs w r2 hB r3 r4 r5 r6) ?_
  rintro e w' ⟨v, rfl, hf', hb, _⟩
  refine ⟨v, rfl, ?_⟩
  rw [hd]
  exact hK _ _ ⟨bm, D, h.grow hi h0 hl (grown_of_below hb) hc ⟨v, put_same (by rw [h.stat.size]; exact hdl), hf'.congr hf⟩⟩
theorem s_punct (h : KCI B w0 bm D listed a w) (hi : listed.getD i true = false) (hK : Goes B w0 listed i K) (hg : o.guard = none) (hop : o.op = .makeFunc (.func 302) #[] #[.tmp 6, .tmp 5]) (hd : o.dst = some d) (hdl : d < 46) (h0 : i ≠ 0) (hl : lone i (some d) = true) (hc : claims[i]? = some (.fn d punctD)) :
    if Region.wanted o (yielded ops a.tmps) = true then Oper.wp Tryz.prog o a w K Q else E := by
  obtain ⟨b5, v5, e5, g5, c5, f5⟩ := h.stat.t5
  obtain ⟨b6, v6, e6, g6, c6, f6⟩ := h.stat.t6
  refine st_val (v := fnV 302 #[ptr b6, ptr b5]) (w' := w) hg ?_ ?_
  · have e1 : (#[Operand.tmp 6, Operand.tmp 5].map a.eval) = #[ptr b6, ptr b5] := by
      simp only [List.map_toArray, List.map_cons, List.map_nil, ev_tmp e5, ev_tmp e6]
    have e2 : (#[].map a.eval) = (#[] : Array Value) := by simp
    simp only [execOp, hop, e1, e2]
    rfl
  · rw [hd]
    exact hK _ _ ⟨bm, D, h.grow hi h0 hl (World.grownBy.refl _ _) hc ⟨_, put_same (by rw [h.stat.size]; exact hdl), .but b6 b5 v6 v5 graphD alnumD _ c6 c5 g6 g5 f6 f5 (fun _ => rfl)⟩⟩
theorem s_row (h : KCI B w0 bm D listed a w) (hi : listed.getD i true = false) (hK : Goes B w0 listed i K) (fs : List BSet) (n : Nat) (ps : Array (Nat × Operand)) (vs : List Value) (hvl : vs.length = fs.length) (hvb : vs.length ≤ 100) (hv : ∀ (j : Nat) (v : Value) (f' : BSet), vs[j]? = some v → fs[j]? = some f' → FnIs B w v f') (hg : o.guard = none) (hop : o.op = .buildSlice 394 n ps) (hrun : (Instr.buildSlice 394 n (ps.map fun (i, x) => (i, a.eval x))).run Tryz.prog w = .ok (.slice (some ⟨w.heap.size, 0, none⟩) vs.length vs.length) (w.alloc (.cells vs.toArray 148))) (hd : o.dst = some d) (hdl : d < 46) (h0 : i ≠ 0) (hl : lone i (some d) = true) (hc : claims[i]? = some (.row d fs)) :
    if Region.wanted o (yielded ops a.tmps) = true then Oper.wp Tryz.prog o a w K Q else E := by
  have hB : B ≤ w.heap.size := Nat.le_trans h.stat.hB h.stat.below.size
  refine st_val (v := .slice (some ⟨w.heap.size, 0, none⟩) vs.length vs.length) (w' := w.alloc (.cells vs.toArray 148)) hg ?_ ?_
  · simp only [execOp, hop]
    simp only [Sem.run_bind, hrun, Result.andThen, Sem.run_pure]
  · rw [hd]
    have hk := kc_alloc 0 w (.cells vs.toArray 148)
    refine hK _ _ ⟨bm, D, h.grow hi h0 hl (World.grownBy_alloc _ _ _) hc ⟨_, put_same (by rw [h.stat.size]; exact hdl), w.heap.size, vs.length, vs, rfl, hB, hvl.symm, hvb, fun j v e => ?_, fun j v f' e1 e2 => (hv j v f' e1 e2).keep (fun a v _ e => hk a v (Nat.zero_le _) e)⟩⟩
    have hn := World.alloc_heap_new w (.cells vs.toArray 148)
    simp only [World.cell?, hn]
    simpa using e
theorem KCI.hasMap (h : KCI B w0 bm D listed a w) (h0 : listed.getD 0 false = true) : B ≤ bm ∧ MapGood B w D ∧ ∃ n, w.ownsMap Tryz.prog 9 fnRd bm n D ∧ n + unl listed ≤ 100 := by
  rcases h.map with ⟨_, m⟩ | ⟨m1, _⟩
  · exact m
  · rw [h0] at m1; cases m1
theorem s_make (h : KCI B w0 bm D listed a w) (hi : listed.getD 0 true = false) (hK : Goes B w0 listed 0 K) (hu : unl listed ≤ 100) (hg : o.guard = none) (hop : o.op = .makeMap 376 none) (hd : o.dst = some 19) :
    if Region.wanted o (yielded ops a.tmps) = true then Oper.wp Tryz.prog o a w K Q else E := by
  have hB : B ≤ w.heap.size := Nat.le_trans h.stat.hB h.stat.below.size
  have hu2 := unl_set hi
  have hsz : 0 < listed.size := by
    by_cases hz : 0 < listed.size
    · exact hz
    · rw [Array.getD_eq_getD_getElem?, Array.getElem?_eq_none (by omega)] at hi; cases hi
  have hf : listed.getD 0 false = false := by
    rw [Array.getD_eq_getD_getElem?, Array.getElem?_eq_getElem hsz] at hi ⊢
    exact hi
  obtain ⟨l1, l2⟩ := lone_spec (i := 0) (dst := some 19) (by decide)
  have hg2 := World.grownBy_alloc w (.map #[] 0) none
  have hk := kc_none hg2
  have hb := h.stat.below.grown hg2 hB (fun k e => by cases e)
  refine st_val (v := .map (some w.heap.size)) (w' := w.alloc (.map #[] 0)) hg ?_ ?_
  · simp only [execOp, hop]
    rfl
  · rw [hd]
    refine hK _ _ ⟨w.heap.size, .map [], h.stat.keep l2 hk hb, .inl ⟨?_, hB, MapGood.nil _ _, 0, World.ownsMap_made _ _ _ _, by omega⟩, ?_⟩
    · rw [Array.getD_eq_getD_getElem?, Array.getElem?_setIfInBounds_self_of_lt hsz]; rfl
    · intro k c hc hlk
      by_cases e : k = 0
      · subst e
        cases hc
        exact ⟨put_same (by rw [h.stat.size]; decide), #[], 0, World.alloc_heap_new w _⟩
      · rw [listed_set e] at hlk
        have hold := h.cl k c hc hlk
        rcases h.map with ⟨m1, _⟩ | ⟨_, rfl, x, hx⟩
        · rw [hf] at m1; cases m1
        · cases c with
          | fn d f => exact Claim.keep (D := .map []) (bm := w.heap.size) (c := .fn d f) hold (fun d' hd' => l1 k _ d' hc e hd') hk (fun es c e => ⟨es, c, (hg2.block _ (Array.getElem?_eq_some_iff.1 e).1 (by simp)).trans e⟩) (fun _ e => e)
          | row d f => exact Claim.keep (D := .map []) (bm := w.heap.size) (c := .row d f) hold (fun d' hd' => l1 k _ d' hc e hd') hk (fun es c e => ⟨es, c, (hg2.block _ (Array.getElem?_eq_some_iff.1 e).1 (by simp)).trans e⟩) (fun _ e => e)
          | key n => have hh : has (DataW.map [] : DataW Unit) (lt n) = true := hold; rw [has_nil] at hh; cases hh
          | mp d =>
            obtain ⟨_, es, cc, hm⟩ := hold
            simp [World.cell?, hm] at hx
theorem s_insert (h : KCI B w0 bm D listed a w) (hi : listed.getD i true = false) (hK : Goes B w0 listed i K) (h00 : listed.getD 0 false = true) (s : Nat) (n : List UInt8) (f : BSet) (hcl : classD n = some f) (hnl : n.length ≤ 100) (hg : o.guard = none) (hop : o.op = .insert 376 (.tmp 19) (.const (.string ⟨n.toArray⟩)) (.tmp s)) (hd : o.dst = none) (hs : ∃ v, a.tmps[s]? = some v ∧ FnIs B w v f) (h0 : i ≠ 0) (hc : claims[i]? = some (.key n)) :
    if Region.wanted o (yielded ops a.tmps) = true then Oper.wp Tryz.prog o a w K Q else E := by
  obtain ⟨v, e, hf⟩ := hs
  obtain ⟨m1, m2, q, m3, m4⟩ := h.hasMap h00
  obtain ⟨dt, hrd⟩ := hf.read
  have h19 : a.tmps[19]? = some (.map (some bm)) := (h.cl 0 (.mp 19) rfl h00).1
  have hkey : keyOf Tryz.prog 9 (.string ⟨n.toArray⟩) = some (lt n) := by
    have hsz : (⟨n.toArray⟩ : ByteArray).size ≤ maxLen := by show n.toArray.size ≤ _; unfold maxLen; simp; omega
    have := WideMaps.keyOf_string_mk (P := Tryz.prog) Tryz.underlying9' hsz
    simpa [lt] using this
  obtain ⟨w', hrun, r1, r2⟩ := m3.update lawS (show Tryz.prog.underlying 376 = some (.map 9 148) by kernel_rfl) (by unfold maxLen; omega) hkey hrd
  obtain ⟨es, clk, hbm, _⟩ := m3
  have hk : KC 0 w w' := fun x y _ e => cell_kept e r2 (fun r er => by cases er; exact ⟨_, hbm, rfl⟩)
  have hB : B ≤ w.heap.size := Nat.le_trans h.stat.hB h.stat.below.size
  have hb := h.stat.below.grown r2 hB (fun k e => by cases e; exact m1)
  have l1 : ∀ (k : Nat) (c : Claim) (d' : Nat), claims[k]? = some c → k ≠ i → c.dst = some d' → (none : Option Nat) ≠ some d' := fun _ _ _ _ _ _ e => by cases e
  have l2 : ∀ d, d < 6 → (none : Option Nat) ≠ some (d + 1) := fun _ _ e => by cases e
  have hu := unl_set hi
  refine st_skp (w' := w') hg ?_ ?_
  · simp only [execOp, hop, ev_tmp h19, ev_tmp e]
    show (do Instr.mapUpdate 376 (.map (some bm)) (.string ⟨n.toArray⟩) v; pure Next.skip : Sem Next).run Tryz.prog w = _
    simp [hrun, Result.andThen]
  · rw [hd]
    refine hK _ _ ⟨bm, D.put (lt n) dt, h.stat.keep l2 hk hb, .inl ⟨?_, m1, (m2.keep hk).put hcl hrd (hf.keep (fun a v _ e => hk a v (Nat.zero_le _) e)), q + 1, r1, by omega⟩, ?_⟩
    · rw [listed_set (fun e => h0 e.symm)]; exact h00
    · intro k c hc' hlk
      by_cases e : k = i
      · subst e
        rw [hc] at hc'
        cases hc'
        exact has_put_same m2.isMap keyLitS _
      · rw [listed_set e] at hlk
        obtain ⟨es', clk', hbm', _⟩ := r1
        exact Claim.keep (h.cl k c hc' hlk) (fun d' hd => l1 k c d' hc' e hd) hk (fun _ _ _ => ⟨es', clk', hbm'⟩) (fun m hm => has_put_mono m2.isMap hm)
theorem s_map (h : KCI B w0 bm D listed a w) (hi : listed.getD i true = false) (hK : Goes B w0 listed i K) (s : Nat) (hg : o.guard = none) (hop : o.op = .move (.tmp s) ∨ o.op = .assign (.tmp s)) (hd : o.dst = some d) (hdl : d < 46) (hs : a.tmps[s]? = some (.map (some bm)) ∧ ∃ es c, w.heap[bm]? = some (.map es c)) (h0 : i ≠ 0) (hl : lone i (some d) = true) (hc : claims[i]? = some (.mp d)) :
    if Region.wanted o (yielded ops a.tmps) = true then Oper.wp Tryz.prog o a w K Q else E := by
  refine st_val (v := .map (some bm)) (w' := w) hg (by
    rcases hop with hop | hop
    · rw [BigFrame.run_move _ hop]; rw [ev_tmp hs.1]
    · rw [BigFrame.run_assign _ hop]; rw [ev_tmp hs.1]) ?_
  rw [hd]
  exact hK _ _ ⟨bm, D, h.grow hi h0 hl (World.grownBy.refl _ _) hc ⟨put_same (by rw [h.stat.size]; exact hdl), hs.2⟩⟩
end
end Go.Proofs.YtfemboojdablhaaGreatDoor
namespace Go.Proofs.YtfemboojdablhaaGreatDoor
open Go.RowKit Go.Maps
theorem FnIs.form {B : Nat} {w : World} {v : Value} {f : BSet} (h : FnIs B w v f) : ∃ n lb, v = .func (.func n) #[] lb := by
  cases h with
  | span b1 b2 => exact ⟨_, _, rfl⟩
  | either b => exact ⟨_, _, rfl⟩
  | but b1 b2 => exact ⟨_, _, rfl⟩
theorem all_listed {md : Region.Mode} {ops : Array Oper} {listed : Array Bool} (hs : listed.size = ops.size) (hr : Region.ready md ops listed = []) (ha : ∀ (i : Nat) (o : Oper), ops[i]? = some o → ∀ e ∈ o.after, e.on < i) : ∀ i, i < ops.size → listed.getD i false = true := by
  intro i
  induction i using Nat.strongRecOn with
  | ind i ih =>
    intro hi
    cases hl : listed.getD i false with
    | true => rfl
    | false =>
      have hl' : listed.getD i true = false := by
        rw [Array.getD_eq_getD_getElem?, Array.getElem?_eq_getElem (by omega)] at hl ⊢
        exact hl
      have : i ∈ Region.ready md ops listed := by
        unfold Region.ready
        rw [List.mem_filter, List.mem_range]
        refine ⟨hi, ?_⟩
        rw [hl', Array.getElem?_eq_getElem hi]
        simp only [Bool.not_false, Bool.true_and, Option.map_some, Option.getD_some, Array.all_eq_true_iff_forall_mem]
        intro e he
        have hlt := ha i ops[i] (Array.getElem?_eq_getElem hi) e he
        rw [ih e.on hlt (by omega)]
        simp
      rw [hr] at this
      cases this
theorem after_ok {ops : Array Oper} (h : ((List.range ops.size).all fun i => (ops[i]?).all fun o => o.after.all fun e => decide (e.on < i)) = true) : ∀ (i : Nat) (o : Oper), ops[i]? = some o → ∀ e ∈ o.after, e.on < i := by
  intro i o ho e he
  rw [List.all_eq_true] at h
  have h1 := h i (List.mem_range.2 (Array.getElem?_eq_some_iff.1 ho).1)
  rw [ho] at h1
  simp only [Option.all_some, Array.all_eq_true_iff_forall_mem] at h1
  exact of_decide_eq_true (h1 e he)
theorem class_names {nm : List UInt8} {f : BSet} (h : classD nm = some f) : nm ∈ [nmAlpha, nmDigit, nmAlnum, nmUpper, nmLower, nmXdigit, nmSpace, nmBlank, nmPunct, nmPrint, nmGraph, nmCntrl] := by
  unfold classD at h
  rw [Option.map_eq_some_iff] at h
  obtain ⟨x, hx, _⟩ := h
  have h1 := List.find?_some hx
  have h2 := List.mem_of_find?_eq_some hx
  have e : x.1 = nm := by simpa using h1
  rw [← e]
  have : x.1 ∈ classTab.map (·.1) := List.mem_map.2 ⟨x, h2, rfl⟩
  exact this
theorem anyD2 (f g : BSet) (j : Nat) : orD f g j = anyD [f, g] j := by simp [orD, anyD]
theorem xdig3 (j : Nat) : xdigD j = anyD [digitD, spanD 65 70, spanD 97 102] j := by simp [xdigD, orD, anyD, Bool.or_assoc]
theorem rowF2 {B : Nat} {w : World} {v1 v2 : Value} {f1 f2 : BSet} (h1 : FnIs B w v1 f1) (h2 : FnIs B w v2 f2) : ∀ (j : Nat) (v : Value) (f' : BSet), [v1, v2][j]? = some v → [f1, f2][j]? = some f' → FnIs B w v f' := by
  intro j v f' e1 e2
  match j, e1, e2 with
  | 0, e1, e2 => cases e1; cases e2; exact h1
  | 1, e1, e2 => cases e1; cases e2; exact h2
theorem rowF3 {B : Nat} {w : World} {v1 v2 v3 : Value} {f1 f2 f3 : BSet} (h1 : FnIs B w v1 f1) (h2 : FnIs B w v2 f2) (h3 : FnIs B w v3 f3) : ∀ (j : Nat) (v : Value) (f' : BSet), [v1, v2, v3][j]? = some v → [f1, f2, f3][j]? = some f' → FnIs B w v f' := by
  intro j v f' e1 e2
  match j, e1, e2 with
  | 0, e1, e2 => cases e1; cases e2; exact h1
  | 1, e1, e2 => cases e1; cases e2; exact h2
  | 2, e1, e2 => cases e1; cases e2; exact h3
theorem cells_new {w : World} {vs : List Value} {t : TypeId} : ∀ (i : Nat) (v : Value), vs[i]? = some v → (w.alloc (.cells vs.toArray t)).cell? ⟨w.heap.size, i, none⟩ = some v := by
  intro i v e
  have hn := World.alloc_heap_new w (.cells vs.toArray t)
  simp only [World.cell?, hn]
  simpa using e
theorem kcB {B : Nat} {w w' : World} (h : KC 0 w w') : KC B w w' := fun a v _ e => h a v (Nat.zero_le _) e
theorem buildF2 {B : Nat} {W w : World} {v1 v2 : Value} {f1 f2 : BSet} (h1 : FnIs B W v1 f1) (h2 : FnIs B W v2 f2) : (Instr.buildSlice 394 2 #[(0, v1), (1, v2)]).run Tryz.prog w = .ok (.slice (some ⟨w.heap.size, 0, none⟩) 2 2) (w.alloc (.cells #[v1, v2] 148)) := by
  obtain ⟨n1, lb1, rfl⟩ := h1.form
  obtain ⟨n2, lb2, rfl⟩ := h2.form
  have hs := Tryz.sizeOf148
  have hz := Tryz.zeroValue148
  simp [Instr.buildSlice, go_sem, hs, hz, Instr.fill, Result.andThen, newRow]
theorem buildF3 {B : Nat} {W w : World} {v1 v2 v3 : Value} {f1 f2 f3 : BSet} (h1 : FnIs B W v1 f1) (h2 : FnIs B W v2 f2) (h3 : FnIs B W v3 f3) : (Instr.buildSlice 394 3 #[(0, v1), (1, v2), (2, v3)]).run Tryz.prog w = .ok (.slice (some ⟨w.heap.size, 0, none⟩) 3 3) (w.alloc (.cells #[v1, v2, v3] 148)) := by
  obtain ⟨n1, lb1, rfl⟩ := h1.form
  obtain ⟨n2, lb2, rfl⟩ := h2.form
  obtain ⟨n3, lb3, rfl⟩ := h3.form
  have hs := Tryz.sizeOf148
  have hz := Tryz.zeroValue148
  simp [Instr.buildSlice, go_sem, hs, hz, Instr.fill, Result.andThen, newRow]
set_option maxRecDepth 100000 in
set_option maxHeartbeats 4000000 in
theorem classes_any (w : World) :
    Calls Tryz.prog 280 #[] w fun e w' => ∃ bm n D, e = .returned (.map (some bm)) ∧ w.heap.size ≤ bm ∧ w'.ownsMap Tryz.prog 9 fnRd bm n D ∧ MapGood w.heap.size w' D ∧ (∀ nm, has D (lt nm) = (classD nm).isSome) ∧ Below w.heap.size w w' := by
  have s1 := span_any 65 90 w
  go_enter Tryz.func280, Tryz.ntmps280
  go_wp2_with fail
  refine s1.mono ?_
  rintro e w1 ⟨v1, rfl, f1, b1, k1⟩
  clear s1
  have s2 := span_any 97 122 w1
  go_wp2_with fail
  refine s2.mono ?_
  rintro e w2 ⟨v2, rfl, f2, b2, k2⟩
  clear s2
  have s3 := span_any 48 57 w2
  go_wp2_with fail
  refine s3.mono ?_
  rintro e w3 ⟨v3, rfl, f3, b3, k3⟩
  clear s3
  have z1 := b1.size
  have z2 := b2.size
  have z3 := b3.size
  have g1 : FnIs w.heap.size w3 v1 upperD := (f1.keep (kcB (k2.trans k3)))
  have g2 : FnIs w.heap.size w3 v2 lowerD := (f2.mono z1).keep (kcB k3)
  have g3 : FnIs w.heap.size w3 v3 digitD := f3.mono (by omega)
  have b03 : Below w.heap.size w w3 := (b1.trans (b2.mono z1)).trans (b3.mono (by omega))
  obtain ⟨n1, lb1, rfl⟩ := g1.form
  obtain ⟨n2, lb2, rfl⟩ := g2.form
  obtain ⟨n3, lb3, rfl⟩ := g3.form
  clear f1 f2 f3 k1 k2 k3
  have ka := kc_alloc 0 w3 (.cells #[.func (.func n1) #[] lb1, .func (.func n2) #[] lb2] 148)
  have s4 := either_any w.heap.size w3.heap.size 2 [.func (.func n1) #[] lb1, .func (.func n2) #[] lb2] [upperD, lowerD] (w3.alloc (.cells #[.func (.func n1) #[] lb1, .func (.func n2) #[] lb2] 148)) (by omega) (by simp; omega) rfl (by simp) cells_new (rowF2 (g1.keep (kcB ka)) (g2.keep (kcB ka)))
  simp only [List.length_cons, List.length_nil] at s4
  have HG := hide (And.intro g1 (And.intro g2 g3))
  have HB := hide (And.intro b03 (And.intro z1 (And.intro z2 z3)))
  have HKA := hide ka
  clear g1 g2 g3 b1 b2 b3 b03 z1 z2 z3 ka
  go_wp2_with fail
  refine s4.mono ?_
  rintro e w4 ⟨v4, rfl, f4, b4, k4⟩
  clear s4
  obtain ⟨g1, g2, g3⟩ := HG.out
  obtain ⟨b03, z1, z2, z3⟩ := HB.out
  have z4 := b4.size
  rw [World.size_alloc] at z4
  have hb34 : Below w3.heap.size w3 w4 := ((Below.refl _ _).alloc (Nat.le_refl _) _).trans (b4.mono (by rw [World.size_alloc]; omega))
  have k34 : KC 0 w3 w4 := HKA.out.trans k4
  have b04 : Below w.heap.size w w4 := b03.trans (hb34.mono b03.size)
  have j1 := g1.keep (kcB k34)
  have j2 := g2.keep (kcB k34)
  have j3 := g3.keep (kcB k34)
  have j4 : FnIs w.heap.size w4 v4 alphaD := f4.congr (fun j => anyD2 upperD lowerD j)
  obtain ⟨n4, lb4, rfl⟩ := j4.form
  have kb := kc_alloc 0 w4 (.cells #[.func (.func n4) #[] lb4, .func (.func n3) #[] lb3] 148)
  have s5 := either_any w.heap.size w4.heap.size 2 [.func (.func n4) #[] lb4, .func (.func n3) #[] lb3] [alphaD, digitD] (w4.alloc (.cells #[.func (.func n4) #[] lb4, .func (.func n3) #[] lb3] 148)) (by omega) (by simp; omega) rfl (by simp) cells_new (rowF2 (j4.keep (kcB kb)) (j3.keep (kcB kb)))
  simp only [List.length_cons, List.length_nil] at s5
  have HG4 := hide (And.intro j1 (And.intro j2 (And.intro j3 j4)))
  have HB4 := hide (And.intro b04 (And.intro z4 b03.size))
  have HKB := hide kb
  clear HG HB HKA g1 g2 g3 b03 z1 z2 z3 z4 b4 k4 hb34 k34 b04 f4 j1 j2 j3 j4 kb
  go_wp2_with fail
  refine s5.mono ?_
  rintro e w5 ⟨v5, rfl, f5, b5, k5⟩
  clear s5
  obtain ⟨j1, j2, j3, j4⟩ := HG4.out
  obtain ⟨b04, z4, z03⟩ := HB4.out
  have z5 := b5.size
  rw [World.size_alloc] at z5
  have hb45 : Below w4.heap.size w4 w5 := ((Below.refl _ _).alloc (Nat.le_refl _) _).trans (b5.mono (by rw [World.size_alloc]; omega))
  have k45 : KC 0 w4 w5 := HKB.out.trans k5
  have b05 : Below w.heap.size w w5 := b04.trans (hb45.mono b04.size)
  have j5 : FnIs w.heap.size w5 v5 alnumD := f5.congr (fun j => anyD2 alphaD digitD j)
  obtain ⟨n5, lb5, rfl⟩ := j5.form
  have kc := kc_alloc 0 w5 (.cells #[.func (.func n5) #[] lb5] 148)
  obtain ⟨W6, hW6⟩ : ∃ W6, w5.alloc (.cells #[.func (.func n5) #[] lb5] 148) = W6 := ⟨_, rfl⟩
  have s6 := span_any 33 126 W6
  have z6 : W6.heap.size = w5.heap.size + 1 := by rw [← hW6, World.size_alloc]
  have c5 : W6.cell? ⟨w5.heap.size, 0, none⟩ = some (.func (.func n5) #[] lb5) := by rw [← hW6]; exact cells_new (vs := [.func (.func n5) #[] lb5]) 0 _ rfl
  have b06 : Below w.heap.size w W6 := by rw [← hW6]; exact b05.alloc b05.size _
  rw [hW6] at kc
  have k46 := k45.trans kc
  have HG6 := hide (And.intro (j1.keep (kcB k46)) (And.intro (j2.keep (kcB k46)) (And.intro (j3.keep (kcB k46)) (And.intro (j4.keep (kcB k46)) (j5.keep (kcB kc))))))
  have HB6 := hide (And.intro b06 (And.intro z6 (And.intro z5 (And.intro z4 z03))))
  have HC5 := hide c5
  clear HG4 HB4 HKB j1 j2 j3 j4 b04 z4 z03 z5 b5 k5 hb45 k45 b05 f5 j5 kc z6 c5 b06 k46
  go_wp2_with fail
  refine s6.mono ?_
  rintro e w7 ⟨v6, rfl, f6, b7, k7⟩
  clear s6 hW6
  obtain ⟨j1, j2, j3, j4, j5⟩ := HG6.out
  obtain ⟨b06, z6, z5, z4, z03⟩ := HB6.out
  have z7 := b7.size
  obtain ⟨n6, lb6, rfl⟩ := f6.form
  obtain ⟨W8, hW8⟩ : ∃ W8, w7.alloc (.cells #[.func (.func n6) #[] lb6] 148) = W8 := ⟨_, rfl⟩
  have k78 : KC 0 w7 W8 := by rw [← hW8]; exact kc_alloc 0 w7 _
  have k68 := k7.trans k78
  have c6 : W8.cell? ⟨w7.heap.size, 0, none⟩ = some (.func (.func n6) #[] lb6) := by rw [← hW8]; exact cells_new (vs := [.func (.func n6) #[] lb6]) 0 _ rfl
  have b08 : Below w.heap.size w W8 := by
    rw [← hW8]
    have b07 : Below w.heap.size w w7 := b06.trans (b7.mono b06.size)
    exact b07.alloc b07.size _
  have hB6 := b06.size
  have kd : KC 0 W8 W8.drew := fun a v _ e => e
  have k68d := k68.trans kd
  have k78d := k78.trans kd
  have HST : Hid (∀ (a : Act), a.tmps.size = 46 → a.defers = [] → a.tmps[1]? = some (.func (.func n1) #[] lb1) → a.tmps[2]? = some (.func (.func n2) #[] lb2) → a.tmps[3]? = some (.func (.func n3) #[] lb3) → a.tmps[4]? = some (.func (.func n4) #[] lb4) → a.tmps[5]? = some (ptr w5.heap.size) → a.tmps[6]? = some (ptr w7.heap.size) → Stat w.heap.size w a W8.drew) := fun a h0 hd h1 h2 h3 h4 h5 h6 =>
    ⟨h0, hd, ⟨b08.os, b08.tape, b08.output, b08.size, b08.block⟩, Nat.le_refl _, ⟨_, h1, j1.keep (kcB k68d)⟩, ⟨_, h2, j2.keep (kcB k68d)⟩, ⟨_, h3, j3.keep (kcB k68d)⟩, ⟨_, h4, j4.keep (kcB k68d)⟩, ⟨_, _, h5, by omega, k68 _ _ (Nat.zero_le _) HC5.out, j5.keep (kcB k68d)⟩, ⟨_, _, h6, by omega, c6, (f6.mono hB6).keep (kcB k78d)⟩⟩
  have HC := hide (k68 _ _ (Nat.zero_le _) HC5.out)
  clear HG6 HB6 HC5 j1 j2 j3 j4 j5 b06 z6 z5 z4 z03 z7 f6 b7 k7 k78 k68 c6 b08 hB6 kd k68d k78d
  go_wp2_with fail
  rename_i KK aK
  refine wp_region_any (by kernel_rfl) (wpAny_inv (I := fun listed a w' => listed.size = 40 ∧ ∃ bm D, KCI w.heap.size w bm D listed a w') ?hend ?hstep _ _ _ _ (by decide) ?hinit)
  case hinit =>
    refine ⟨rfl, w5.heap.size, .map [], HST.out _ rfl rfl rfl rfl rfl rfl rfl rfl, .inr ⟨rfl, rfl, _, HC.out⟩, fun k c hc hl => ?_⟩
    rw [Array.getD_eq_getD_getElem?, Array.getElem?_replicate] at hl
    split at hl <;> cases hl
  case hstep =>
    intro listed a w' i o hI ho hi hdep K' hK
    obtain ⟨hsz, bm, D, h⟩ := hI
    have hG : Goes w.heap.size w listed i K' := fun a' w' hci => hK a' w' ⟨by rw [Array.size_setIfInBounds]; exact hsz, hci⟩
    have hun : unl listed ≤ 100 := by
      unfold unl
      have := List.countP_le_length (p := fun b => !b) (l := listed.toList)
      rw [Array.length_toList, hsz] at this
      omega
    have hlt : i < 40 := (Array.getElem?_eq_some_iff.1 ho).1
    clear hK
    match i, hlt with
    | 0, _ =>
      obtain rfl := Option.some.inj ho
      exact s_make h hi hG hun rfl rfl rfl
    | 1, _ =>
      obtain rfl := Option.some.inj ho
      exact s_move h hi hG 4 alphaD rfl rfl rfl (by decide) h.stat.t4 (by decide) (by decide) rfl
    | 2, _ =>
      obtain rfl := Option.some.inj ho
      exact s_insert h hi hG (hdep ⟨0, .data⟩ (by simp) rfl) 20 nmAlpha alphaD rfl (by decide) rfl rfl rfl (h.cl 1 _ rfl (hdep ⟨1, .data⟩ (by simp) rfl)) (by decide) rfl
    | 3, _ =>
      obtain rfl := Option.some.inj ho
      exact s_move h hi hG 3 digitD rfl rfl rfl (by decide) h.stat.t3 (by decide) (by decide) rfl
    | 4, _ =>
      obtain rfl := Option.some.inj ho
      exact s_insert h hi hG (hdep ⟨0, .data⟩ (by simp) rfl) 21 nmDigit digitD rfl (by decide) rfl rfl rfl (h.cl 3 _ rfl (hdep ⟨3, .data⟩ (by simp) rfl)) (by decide) rfl
    | 5, _ =>
      obtain rfl := Option.some.inj ho
      exact s_load h hi hG 5 alnumD rfl rfl rfl (by decide) h.stat.t5 (by decide) (by decide) rfl
    | 6, _ =>
      obtain rfl := Option.some.inj ho
      exact s_insert h hi hG (hdep ⟨0, .data⟩ (by simp) rfl) 22 nmAlnum alnumD rfl (by decide) rfl rfl rfl (h.cl 5 _ rfl (hdep ⟨5, .data⟩ (by simp) rfl)) (by decide) rfl
    | 7, _ =>
      obtain rfl := Option.some.inj ho
      exact s_move h hi hG 1 upperD rfl rfl rfl (by decide) h.stat.t1 (by decide) (by decide) rfl
    | 8, _ =>
      obtain rfl := Option.some.inj ho
      exact s_insert h hi hG (hdep ⟨0, .data⟩ (by simp) rfl) 23 nmUpper upperD rfl (by decide) rfl rfl rfl (h.cl 7 _ rfl (hdep ⟨7, .data⟩ (by simp) rfl)) (by decide) rfl
    | 9, _ =>
      obtain rfl := Option.some.inj ho
      exact s_move h hi hG 2 lowerD rfl rfl rfl (by decide) h.stat.t2 (by decide) (by decide) rfl
    | 10, _ =>
      obtain rfl := Option.some.inj ho
      exact s_insert h hi hG (hdep ⟨0, .data⟩ (by simp) rfl) 24 nmLower lowerD rfl (by decide) rfl rfl rfl (h.cl 9 _ rfl (hdep ⟨9, .data⟩ (by simp) rfl)) (by decide) rfl
    | 11, _ =>
      obtain rfl := Option.some.inj ho
      exact s_move h hi hG 3 digitD rfl rfl rfl (by decide) h.stat.t3 (by decide) (by decide) rfl
    | 12, _ =>
      obtain rfl := Option.some.inj ho
      exact s_span h hi hG 65 70 _ rfl rfl rfl (by decide) (by decide) (by decide) rfl
    | 13, _ =>
      obtain rfl := Option.some.inj ho
      exact s_span h hi hG 97 102 _ rfl rfl rfl (by decide) (by decide) (by decide) rfl
    | 14, _ =>
      obtain rfl := Option.some.inj ho
      obtain ⟨x1, e1, q1⟩ := h.cl 11 _ rfl (hdep ⟨11, .data⟩ (by simp) rfl)
      obtain ⟨x2, e2, q2⟩ := h.cl 12 _ rfl (hdep ⟨12, .data⟩ (by simp) rfl)
      obtain ⟨x3, e3, q3⟩ := h.cl 13 _ rfl (hdep ⟨13, .data⟩ (by simp) rfl)
      exact s_row h hi hG [digitD, spanD 65 70, spanD 97 102] 3 #[(0, .tmp 25), (1, .tmp 26), (2, .tmp 27)] [x1, x2, x3] rfl (by simp) (rowF3 q1 q2 q3) rfl rfl (by simp only [List.map_toArray, List.map_cons, List.map_nil, ev_tmp e1, ev_tmp e2, ev_tmp e3]; exact buildF3 q1 q2 q3) rfl (by decide) (by decide) (by decide) rfl
    | 15, _ =>
      obtain rfl := Option.some.inj ho
      exact s_either h hi hG 28 [digitD, spanD 65 70, spanD 97 102] xdigD _ rfl rfl rfl (by decide) (h.cl 14 _ rfl (hdep ⟨14, .data⟩ (by simp) rfl)) xdig3 (by decide) (by decide) rfl
    | 16, _ =>
      obtain rfl := Option.some.inj ho
      exact s_insert h hi hG (hdep ⟨0, .data⟩ (by simp) rfl) 29 nmXdigit xdigD rfl (by decide) rfl rfl rfl (h.cl 15 _ rfl (hdep ⟨15, .data⟩ (by simp) rfl)) (by decide) rfl
    | 17, _ =>
      obtain rfl := Option.some.inj ho
      exact s_span h hi hG 9 13 _ rfl rfl rfl (by decide) (by decide) (by decide) rfl
    | 18, _ =>
      obtain rfl := Option.some.inj ho
      exact s_span h hi hG 32 32 _ rfl rfl rfl (by decide) (by decide) (by decide) rfl
    | 19, _ =>
      obtain rfl := Option.some.inj ho
      obtain ⟨x1, e1, q1⟩ := h.cl 17 _ rfl (hdep ⟨17, .data⟩ (by simp) rfl)
      obtain ⟨x2, e2, q2⟩ := h.cl 18 _ rfl (hdep ⟨18, .data⟩ (by simp) rfl)
      exact s_row h hi hG [spanD 9 13, spanD 32 32] 2 #[(0, .tmp 30), (1, .tmp 31)] [x1, x2] rfl (by simp) (rowF2 q1 q2) rfl rfl (by simp only [List.map_toArray, List.map_cons, List.map_nil, ev_tmp e1, ev_tmp e2]; exact buildF2 q1 q2) rfl (by decide) (by decide) (by decide) rfl
    | 20, _ =>
      obtain rfl := Option.some.inj ho
      exact s_either h hi hG 32 [spanD 9 13, spanD 32 32] spaceD _ rfl rfl rfl (by decide) (h.cl 19 _ rfl (hdep ⟨19, .data⟩ (by simp) rfl)) (fun j => anyD2 _ _ j) (by decide) (by decide) rfl
    | 21, _ =>
      obtain rfl := Option.some.inj ho
      exact s_insert h hi hG (hdep ⟨0, .data⟩ (by simp) rfl) 33 nmSpace spaceD rfl (by decide) rfl rfl rfl (h.cl 20 _ rfl (hdep ⟨20, .data⟩ (by simp) rfl)) (by decide) rfl
    | 22, _ =>
      obtain rfl := Option.some.inj ho
      exact s_span h hi hG 9 9 _ rfl rfl rfl (by decide) (by decide) (by decide) rfl
    | 23, _ =>
      obtain rfl := Option.some.inj ho
      exact s_span h hi hG 32 32 _ rfl rfl rfl (by decide) (by decide) (by decide) rfl
    | 24, _ =>
      obtain rfl := Option.some.inj ho
      obtain ⟨x1, e1, q1⟩ := h.cl 22 _ rfl (hdep ⟨22, .data⟩ (by simp) rfl)
      obtain ⟨x2, e2, q2⟩ := h.cl 23 _ rfl (hdep ⟨23, .data⟩ (by simp) rfl)
      exact s_row h hi hG [spanD 9 9, spanD 32 32] 2 #[(0, .tmp 34), (1, .tmp 35)] [x1, x2] rfl (by simp) (rowF2 q1 q2) rfl rfl (by simp only [List.map_toArray, List.map_cons, List.map_nil, ev_tmp e1, ev_tmp e2]; exact buildF2 q1 q2) rfl (by decide) (by decide) (by decide) rfl
    | 25, _ =>
      obtain rfl := Option.some.inj ho
      exact s_either h hi hG 36 [spanD 9 9, spanD 32 32] blankD _ rfl rfl rfl (by decide) (h.cl 24 _ rfl (hdep ⟨24, .data⟩ (by simp) rfl)) (fun j => anyD2 _ _ j) (by decide) (by decide) rfl
    | 26, _ =>
      obtain rfl := Option.some.inj ho
      exact s_insert h hi hG (hdep ⟨0, .data⟩ (by simp) rfl) 37 nmBlank blankD rfl (by decide) rfl rfl rfl (h.cl 25 _ rfl (hdep ⟨25, .data⟩ (by simp) rfl)) (by decide) rfl
    | 27, _ =>
      obtain rfl := Option.some.inj ho
      exact s_punct h hi hG rfl rfl rfl (by decide) (by decide) (by decide) rfl
    | 28, _ =>
      obtain rfl := Option.some.inj ho
      exact s_insert h hi hG (hdep ⟨0, .data⟩ (by simp) rfl) 38 nmPunct punctD rfl (by decide) rfl rfl rfl (h.cl 27 _ rfl (hdep ⟨27, .data⟩ (by simp) rfl)) (by decide) rfl
    | 29, _ =>
      obtain rfl := Option.some.inj ho
      exact s_span h hi hG 32 126 _ rfl rfl rfl (by decide) (by decide) (by decide) rfl
    | 30, _ =>
      obtain rfl := Option.some.inj ho
      exact s_insert h hi hG (hdep ⟨0, .data⟩ (by simp) rfl) 39 nmPrint (spanD 32 126) rfl (by decide) rfl rfl rfl (h.cl 29 _ rfl (hdep ⟨29, .data⟩ (by simp) rfl)) (by decide) rfl
    | 31, _ =>
      obtain rfl := Option.some.inj ho
      exact s_load h hi hG 6 graphD rfl rfl rfl (by decide) h.stat.t6 (by decide) (by decide) rfl
    | 32, _ =>
      obtain rfl := Option.some.inj ho
      exact s_insert h hi hG (hdep ⟨0, .data⟩ (by simp) rfl) 40 nmGraph graphD rfl (by decide) rfl rfl rfl (h.cl 31 _ rfl (hdep ⟨31, .data⟩ (by simp) rfl)) (by decide) rfl
    | 33, _ =>
      obtain rfl := Option.some.inj ho
      exact s_span h hi hG 0 31 _ rfl rfl rfl (by decide) (by decide) (by decide) rfl
    | 34, _ =>
      obtain rfl := Option.some.inj ho
      exact s_span h hi hG 127 127 _ rfl rfl rfl (by decide) (by decide) (by decide) rfl
    | 35, _ =>
      obtain rfl := Option.some.inj ho
      obtain ⟨x1, e1, q1⟩ := h.cl 33 _ rfl (hdep ⟨33, .data⟩ (by simp) rfl)
      obtain ⟨x2, e2, q2⟩ := h.cl 34 _ rfl (hdep ⟨34, .data⟩ (by simp) rfl)
      exact s_row h hi hG [spanD 0 31, spanD 127 127] 2 #[(0, .tmp 41), (1, .tmp 42)] [x1, x2] rfl (by simp) (rowF2 q1 q2) rfl rfl (by simp only [List.map_toArray, List.map_cons, List.map_nil, ev_tmp e1, ev_tmp e2]; exact buildF2 q1 q2) rfl (by decide) (by decide) (by decide) rfl
    | 36, _ =>
      obtain rfl := Option.some.inj ho
      exact s_either h hi hG 43 [spanD 0 31, spanD 127 127] cntrlD _ rfl rfl rfl (by decide) (h.cl 35 _ rfl (hdep ⟨35, .data⟩ (by simp) rfl)) (fun j => anyD2 _ _ j) (by decide) (by decide) rfl
    | 37, _ =>
      obtain rfl := Option.some.inj ho
      exact s_insert h hi hG (hdep ⟨0, .data⟩ (by simp) rfl) 44 nmCntrl cntrlD rfl (by decide) rfl rfl rfl (h.cl 36 _ rfl (hdep ⟨36, .data⟩ (by simp) rfl)) (by decide) rfl
    | 38, _ =>
      obtain rfl := Option.some.inj ho
      exact s_map h hi hG 19 rfl (.inl rfl) rfl (by decide) (h.cl 0 _ rfl (hdep ⟨0, .data⟩ (by simp) rfl)) (by decide) (by decide) rfl
    | 39, _ =>
      obtain rfl := Option.some.inj ho
      exact s_map h hi hG 45 rfl (.inr rfl) rfl (by decide) (h.cl 38 _ rfl (hdep ⟨38, .data⟩ (by simp) rfl)) (by decide) (by decide) rfl
    | n + 40, hh => exact absurd hh (by omega)
  case hend =>
    rintro listed a w' ⟨hsz, bm, D, h⟩ hr
    have hall := all_listed (ops := _) hsz hr (after_ok (by kernel_rfl))
    have hl : ∀ k, k < 40 → listed.getD k false = true := hall
    obtain ⟨m1, m2, n, m3, _⟩ := h.hasMap (hl 0 (by decide))
    have h0 : a.tmps[0]? = some (.map (some bm)) := (h.cl 39 _ rfl (hl 39 (by decide))).1
    refine aK _ _ ?_
    have hres : (results Tryz.f280 a.tmps).run Tryz.prog w' = .ok (.map (some bm)) w' := by
      rw [results_tmp rfl]
      rw [Array.getD_eq_getD_getElem?, h0]
      rfl
    refine wp_ret ?_
    refine bodyPost_ret hres h.stat.defers ?_
    refine ⟨bm, n, D, rfl, m1, m3, m2, fun nm => ?_, h.stat.below⟩
    · cases hcl : classD nm with
      | none =>
        cases hh : has D (lt nm) with
        | false => rfl
        | true =>
          obtain ⟨f, v, d, e, _⟩ := m2.good nm hh
          rw [hcl] at e
          cases e
      | some f =>
        have hk : nm ∈ [nmAlpha, nmDigit, nmAlnum, nmUpper, nmLower, nmXdigit, nmSpace, nmBlank, nmPunct, nmPrint, nmGraph, nmCntrl] := class_names hcl
        simp only [List.mem_cons, List.not_mem_nil, or_false] at hk
        show has D (lt nm) = true
        rcases hk with rfl | rfl | rfl | rfl | rfl | rfl | rfl | rfl | rfl | rfl | rfl | rfl
        · exact h.cl 2 _ rfl (hl 2 (by decide))
        · exact h.cl 4 _ rfl (hl 4 (by decide))
        · exact h.cl 6 _ rfl (hl 6 (by decide))
        · exact h.cl 8 _ rfl (hl 8 (by decide))
        · exact h.cl 10 _ rfl (hl 10 (by decide))
        · exact h.cl 16 _ rfl (hl 16 (by decide))
        · exact h.cl 21 _ rfl (hl 21 (by decide))
        · exact h.cl 26 _ rfl (hl 26 (by decide))
        · exact h.cl 28 _ rfl (hl 28 (by decide))
        · exact h.cl 30 _ rfl (hl 30 (by decide))
        · exact h.cl 32 _ rfl (hl 32 (by decide))
        · exact h.cl 37 _ rfl (hl 37 (by decide))
end Go.Proofs.YtfemboojdablhaaGreatDoor
