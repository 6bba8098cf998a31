import Derived.Test.YtfemboojdablhaaGreatDoorMi25
namespace Go.Proofs.YtfemboojdablhaaGreatDoor.Rg
open Go.RowKit Go.Shelf
attribute [local go_sem] Oper.semAt_some
section
variable {P : Program} {ops : Array Oper} {Q : Exit → Act → World → Prop} {md : Region.Mode} {F : Fence} {n : Nat}
def unl (listed : Array Bool) : Nat := listed.toList.countP (fun b => !b)
theorem unl_set {listed : Array Bool} {i : Nat} (h : listed.getD i true = false) : unl (listed.setIfInBounds i true) + 1 = unl listed := by
  obtain ⟨l⟩ := listed
  unfold unl
  have h' : l.getD i true = false := by simpa [Array.getD_eq_getD_getElem?, List.getD_eq_getElem?_getD] using h
  clear h
  simp only [List.setIfInBounds_toArray]
  induction l generalizing i with
  | nil => simp at h'
  | cons x l ih =>
    match i with
    | 0 =>
      simp at h'
      subst h'
      simp
    | i + 1 =>
      have := ih (i := i) (by simpa using h')
      simp only [List.set_cons_succ, List.countP_cons]
      omega
theorem ready_mem {listed : Array Bool} {i : Nat} (h : i ∈ Region.ready md ops listed) : ∃ o, ops[i]? = some o ∧ listed.getD i true = false ∧ ∀ e ∈ o.after, Region.binds md e = true → listed.getD e.on false = true := by
  unfold Region.ready at h
  rw [List.mem_filter] at h
  obtain ⟨h1, h2⟩ := h
  rw [List.mem_range] at h1
  refine ⟨ops[i], Array.getElem?_eq_getElem h1, ?_, ?_⟩
  · rw [Bool.and_eq_true] at h2
    simpa using h2.1
  · rw [Bool.and_eq_true, Array.getElem?_eq_getElem h1] at h2
    have h3 := h2.2
    simp only [Option.map_some, Option.getD_some, Array.all_eq_true_iff_forall_mem] at h3
    intro e he hb
    have := h3 e he
    simpa [hb] using this
theorem wpAnyIn_inv {I : Array Bool → Act → World → Prop}
    (hend : ∀ listed a w, I listed a w → Region.ready md ops listed = [] → Q .normal a w)
    (hstep : ∀ listed a w i o, I listed a w → ops[i]? = some o → listed.getD i true = false → (∀ e ∈ o.after, Region.binds md e = true → listed.getD e.on false = true) →
      ∀ K' : Act → World → Prop, (∀ a' w', I (listed.setIfInBounds i true) a' w' → K' a' w') → if Region.wanted o (yielded ops a.tmps) = true then o.wpIn F n P a w K' Q else (∀ f, o.about P w a.eval = some f → F.fn f) ∧ K' (a.put o.dst undef) w) :
    ∀ (fuel : Nat) (listed : Array Bool) (a : Act) (w : World), unl listed ≤ fuel → I listed a w → wpAnyIn F n P md ops Q fuel listed a w := by
  intro fuel
  induction fuel with
  | zero =>
    intro listed a w hu hI
    have hr : Region.ready md ops listed = [] := by
      cases hr : Region.ready md ops listed with
      | nil => rfl
      | cons i rs =>
        obtain ⟨o, _, h2, _⟩ := ready_mem (md := md) (ops := ops) (listed := listed) (i := i) (by rw [hr]; simp)
        have := unl_set h2
        omega
    exact ⟨hr, hend _ _ _ hI hr⟩
  | succ fuel ih =>
    intro listed a w hu hI
    refine ⟨fun hr => hend _ _ _ hI hr, fun i hi => ?_⟩
    obtain ⟨o, h1, h2, h3⟩ := ready_mem hi
    have hs := unl_set h2
    have hst := hstep listed a w i o hI h1 h2 h3 (wpAnyIn F n P md ops Q fuel (listed.setIfInBounds i true)) (fun a' w' h => ih _ a' w' (by omega) h)
    unfold wpOpIn
    rw [h1]
    exact hst
end
def fl (listed : Array Bool) (k : Nat) : Bool := listed.getD k false
theorem fl_ne {listed : Array Bool} {i k : Nat} (hk : k ≠ i) : fl (listed.setIfInBounds i true) k = fl listed k := by
  unfold fl
  rw [Array.getD_eq_getD_getElem?, Array.getD_eq_getD_getElem?, Array.getElem?_setIfInBounds_ne (fun e => hk e.symm)]
theorem fl_self {listed : Array Bool} {i : Nat} (h : i < listed.size) : fl (listed.setIfInBounds i true) i = true := by
  unfold fl
  rw [Array.getD_eq_getD_getElem?, Array.getElem?_setIfInBounds_self_of_lt h]
  rfl
theorem fl_none (n k : Nat) : fl (Array.replicate n false) k = false := by
  unfold fl
  rw [Array.getD_eq_getD_getElem?, Array.getElem?_replicate]
  split <;> rfl
theorem fl_not {listed : Array Bool} {i : Nat} (h : listed.getD i true = false) : fl listed i = false := by
  unfold fl
  rw [Array.getD_eq_getD_getElem?] at h ⊢
  cases e : listed[i]? with
  | none => rw [e] at h; simp at h
  | some x => rw [e] at h; simpa using h
theorem after_ok' {ops : Array Oper} (h : ((List.range ops.size).all fun i => (ops[i]?).all fun o => o.after.all fun e => !(Region.binds .any e) || decide (e.on < i)) = true) : ∀ (i : Nat) (o : Oper), ops[i]? = some o → ∀ e ∈ o.after, Region.binds .any e = true → e.on < i := by
  intro i o ho e he hb
  rw [List.all_eq_true] at h
  have h1 := h i (List.mem_range.2 (Array.getElem?_eq_some_iff.1 ho).1)
  rw [ho] at h1
  simp only [Option.all_some, Array.all_eq_true_iff_forall_mem] at h1
  have := h1 e he
  rw [hb] at this
  simpa using this
theorem all_listed' {ops : Array Oper} {listed : Array Bool} (hs : listed.size = ops.size) (hr : Region.ready .any ops listed = []) (ha : ∀ (i : Nat) (o : Oper), ops[i]? = some o → ∀ e ∈ o.after, Region.binds .any e = true → e.on < i) : ∀ i, i < ops.size → listed.getD i false = true := by
  intro i
  induction i using Nat.strongRecOn with
  | ind i ih =>
    intro hi
    cases hl : listed.getD i false with
    | true => rfl
    | false =>
      have hl' : listed.getD i true = false := by
        rw [Array.getD_eq_getD_getElem?, Array.getElem?_eq_getElem (by omega)] at hl ⊢
        exact hl
      have : i ∈ Region.ready .any ops listed := by
        unfold Region.ready
        rw [List.mem_filter, List.mem_range]
        refine ⟨hi, ?_⟩
        rw [hl', Array.getElem?_eq_getElem hi]
        simp only [Bool.not_false, Bool.true_and, Option.map_some, Option.getD_some, Array.all_eq_true_iff_forall_mem]
        intro e he
        cases hb : Region.binds .any e with
        | false => simp
        | true =>
          have hlt := ha i ops[i] (Array.getElem?_eq_getElem hi) e he hb
          rw [ih e.on hlt (by omega)]
          simp
      rw [hr] at this
      cases this
theorem st_valIn {l n : Nat} {P : Program} {ops : Array Oper} {Q : Exit → Act → World → Prop} {o : Oper} {a : Act} {w w' : World} {K : Act → World → Prop} {E : Prop} {v : Value} (hg : o.guard = none) (hd : ∀ c, o.op ≠ .defer c) (he : (execOp a.eval o).run P w = .ok (.value v) w') (hk : K (a.put o.dst v) w') :
    if Region.wanted o (yielded ops a.tmps) = true then o.wpIn (Fence.wide.inRound l) n P a w K Q else E := by
  have hw : Region.wanted o (yielded ops a.tmps) = true := by simp [Region.wanted, hg]
  rw [if_pos hw]
  refine ⟨fun _ _ => trivial, ?_⟩
  show Oper.uponIn _ _ _ _ _ _ _ ((Oper.semAt (some l) a.eval o).run P w)
  rw [Oper.semAt_some l a.eval o hd, he]
  exact hk
theorem st_skpIn {l n : Nat} {P : Program} {ops : Array Oper} {Q : Exit → Act → World → Prop} {o : Oper} {a : Act} {w w' : World} {K : Act → World → Prop} {E : Prop} (hg : o.guard = none) (hd : ∀ c, o.op ≠ .defer c) (he : (execOp a.eval o).run P w = .ok .skip w') (hk : K (a.put o.dst undef) w') :
    if Region.wanted o (yielded ops a.tmps) = true then o.wpIn (Fence.wide.inRound l) n P a w K Q else E := by
  have hw : Region.wanted o (yielded ops a.tmps) = true := by simp [Region.wanted, hg]
  rw [if_pos hw]
  refine ⟨fun _ _ => trivial, ?_⟩
  show Oper.uponIn _ _ _ _ _ _ _ ((Oper.semAt (some l) a.eval o).run P w)
  rw [Oper.semAt_some l a.eval o hd, he]
  exact hk
theorem st_offIn {l n : Nat} {P : Program} {ops : Array Oper} {Q : Exit → Act → World → Prop} {o : Oper} {a : Act} {w : World} {K : Act → World → Prop} (hw : Region.wanted o (yielded ops a.tmps) = false) (hk : K (a.put o.dst undef) w) :
    if Region.wanted o (yielded ops a.tmps) = true then o.wpIn (Fence.wide.inRound l) n P a w K Q else (∀ f, o.about P w a.eval = some f → (Fence.wide.inRound l).fn f) ∧ K (a.put o.dst undef) w := by
  rw [if_neg (by rw [hw]; decide)]
  exact ⟨fun _ _ => trivial, hk⟩
theorem st_onIn {l n : Nat} {P : Program} {ops : Array Oper} {Q : Exit → Act → World → Prop} {o : Oper} {a : Act} {w w' : World} {K : Act → World → Prop} {E : Prop} {v : Value} (hw : Region.wanted o (yielded ops a.tmps) = true) (hd : ∀ c, o.op ≠ .defer c) (he : (execOp a.eval o).run P w = .ok (.value v) w') (hk : K (a.put o.dst v) w') :
    if Region.wanted o (yielded ops a.tmps) = true then o.wpIn (Fence.wide.inRound l) n P a w K Q else E := by
  rw [if_pos hw]
  refine ⟨fun _ _ => trivial, ?_⟩
  show Oper.uponIn _ _ _ _ _ _ _ ((Oper.semAt (some l) a.eval o).run P w)
  rw [Oper.semAt_some l a.eval o hd, he]
  exact hk
theorem st_callIn {l n : Nat} {P : Program} {ops : Array Oper} {Q : Exit → Act → World → Prop} {o : Oper} {a : Act} {w : World} {K : Act → World → Prop} {E : Prop} {f : FuncId} {args : Array Value} {R : Ending → World → Prop} (hw : Region.wanted o (yielded ops a.tmps) = true) (hd : ∀ c, o.op ≠ .defer c) (he : (execOp a.eval o).run P w = .ok (.enter f args) w)
    (hc : Calls P f args w R) (hk : ∀ e w', R e w' → ∃ v, e = .returned v ∧ K (a.put o.dst v) w') :
    if Region.wanted o (yielded ops a.tmps) = true then o.wpIn (Fence.wide.inRound l) n P a w K Q else E := by
  rw [if_pos hw]
  refine ⟨fun _ _ => trivial, ?_⟩
  show Oper.uponIn _ _ _ _ _ _ _ ((Oper.semAt (some l) a.eval o).run P w)
  rw [Oper.semAt_some l a.eval o hd, he]
  rw [Oper.uponIn_enter]
  refine ⟨fun h => (by cases h), ?_⟩
  refine CallsIn.mono (CallsIn.inRound l (callsIn_wide.2 hc)) ?_
  intro e w' hr
  obtain ⟨v, rfl, hk⟩ := hk e w' hr
  exact hk
structure R14 (mk : Value → Value → Value → Value → Value → Value → Value → Value → Value → Value → Value → Value → Value → Array Value) (g nn j : Nat) (p q : ByteArray) (b1 m : Bool) (wr : World) (listed : Array Bool) (a : Act) (w : World) : Prop where
  size : listed.size = 14
  slots : ∃ x46 x47 x48 x49 x50 x51 x52 x53 x54 x55 x56 x57 x58, a = ⟨mk x46 x47 x48 x49 x50 x51 x52 x53 x54 x55 x56 x57 x58, []⟩ ∧ (fl listed 0 = true → x46 = .slice (some ⟨g, 0, none⟩) (nn + 1) (nn + 1)) ∧ (fl listed 1 = true → x47 = .int .i64 (j : Int)) ∧ (fl listed 2 = true → x48 = .slice (some ⟨g, 0, none⟩) (nn + 1) (nn + 1)) ∧ (fl listed 3 = true → x49 = .int .i64 (j : Int)) ∧ (fl listed 4 = true → x50 = .int .i64 ((j : Int) + 1)) ∧ (fl listed 5 = true → x51 = .pointer (some ⟨g, j + 1, none⟩)) ∧ (fl listed 6 = true → x52 = .bool b1) ∧ (fl listed 7 = true → x53 = .bool b1) ∧ (fl listed 8 = true → b1 = true → x54 = .string p) ∧ (fl listed 9 = true → b1 = true → x55 = .string q) ∧ (fl listed 10 = true → b1 = true → x56 = .bool m) ∧ (fl listed 11 = true → x57 = .bool (b1 && m)) ∧ (fl listed 12 = true → x58 = .pointer (some ⟨g, j, none⟩))
  world : (fl listed 13 = false ∧ Below wr.heap.size wr w ∧ (fl listed 10 = false → w = wr.drew)) ∨ (fl listed 13 = true ∧ (∀ i, i < 13 → fl listed i = true) ∧ ∃ w0, Below wr.heap.size wr w0 ∧ w = w0.setCell ⟨g, j, none⟩ (.bool (b1 && m)))
def ops14 : Array Oper := #[{ dst := some 46, op := Op.load 83 (Operand.tmp 6), type := 83, pos := "parts.go:29", after := #[], guard := none },
  { dst := some 47, op := Op.move (Operand.tmp 9), type := 3, pos := "parts.go:29", after := #[], guard := none },
  { dst := some 48, op := Op.load 83 (Operand.tmp 6), type := 83, pos := "parts.go:29", after := #[], guard := none },
  { dst := some 49, op := Op.move (Operand.tmp 9), type := 3, pos := "parts.go:29", after := #[], guard := none },
  { dst := some 50, op := Op.binOp BinOp.add 3 (Operand.tmp 49) (Operand.const (Value.int IntKind.i64 1)) 3, type := 3, pos := "parts.go:29", after := #[{ on := 3, ground := Ground.data }], guard := none },
  { dst := some 51, op := Op.indexAddr 83 (Operand.tmp 48) (Operand.tmp 50), type := 0, pos := "parts.go:29", after := #[{ on := 2, ground := Ground.data }, { on := 4, ground := Ground.data }], guard := none },
  { dst := some 52, op := Op.load 4 (Operand.tmp 51), type := 4, pos := "parts.go:29", after := #[{ on := 5, ground := Ground.data }], guard := none },
  { dst := some 53, op := Op.move (Operand.tmp 52), type := 4, pos := "parts.go:29", after := #[{ on := 6, ground := Ground.data }], guard := none },
  { dst := some 54, op := Op.move (Operand.tmp 8), type := 9, pos := "parts.go:29", after := #[{ on := 7, ground := Ground.guard }], guard := some (7, true) },
  { dst := some 55, op := Op.move (Operand.tmp 10), type := 9, pos := "parts.go:29", after := #[{ on := 7, ground := Ground.guard }], guard := some (7, true) },
  { dst := some 56, op := Op.call { callee := Callee.value (Operand.func 126), args := #[Operand.tmp 54, Operand.tmp 55], argTypes := #[9, 9] }, type := 4, pos := "parts.go:29", after := #[{ on := 8, ground := Ground.data }, { on := 9, ground := Ground.data }, { on := 7, ground := Ground.chain }, { on := 7, ground := Ground.guard }], guard := some (7, true) },
  { dst := some 57, op := Op.pick (Operand.tmp 53) (Operand.tmp 56) (Operand.const (Value.bool false)), type := 4, pos := "parts.go:29", after := #[{ on := 7, ground := Ground.data }, { on := 10, ground := Ground.data }], guard := none },
  { dst := some 58, op := Op.indexAddr 83 (Operand.tmp 46) (Operand.tmp 47), type := 0, pos := "parts.go:29", after := #[{ on := 0, ground := Ground.data }, { on := 1, ground := Ground.data }, { on := 0, ground := Ground.phase }, { on := 1, ground := Ground.phase }, { on := 2, ground := Ground.phase }, { on := 3, ground := Ground.phase }, { on := 4, ground := Ground.phase }, { on := 5, ground := Ground.phase }, { on := 6, ground := Ground.phase }, { on := 7, ground := Ground.phase }, { on := 8, ground := Ground.phase }, { on := 9, ground := Ground.phase }, { on := 10, ground := Ground.phase }, { on := 11, ground := Ground.phase }], guard := none },
  { dst := none, op := Op.store 4 (Operand.tmp 58) (Operand.tmp 57), type := 0, pos := "parts.go:29", after := #[{ on := 12, ground := Ground.data }, { on := 11, ground := Ground.data }, { on := 10, ground := Ground.chain }, { on := 0, ground := Ground.phase }, { on := 1, ground := Ground.phase }, { on := 2, ground := Ground.phase }, { on := 3, ground := Ground.phase }, { on := 4, ground := Ground.phase }, { on := 5, ground := Ground.phase }, { on := 6, ground := Ground.phase }, { on := 7, ground := Ground.phase }, { on := 8, ground := Ground.phase }, { on := 9, ground := Ground.phase }, { on := 10, ground := Ground.phase }, { on := 11, ground := Ground.phase }], guard := none }]
set_option maxRecDepth 100000 in
set_option maxHeartbeats 8000000 in
theorem reg14 {l : Nat} {Q : Exit → Act → World → Prop} {t0 t1 t2 t3 t4 t5 t7 t11 t12 t13 t14 t15 t16 t17 t18 t19 t20 t21 t22 t23 t24 t25 t26 t27 t28 t29 t30 t31 t32 t33 t34 t35 t36 t37 t38 t39 t40 t41 t42 t43 t44 t45 t46 t47 t48 t49 t50 t51 t52 t53 t54 t55 t56 t57 t58 t59 t60 t61 t62 t63 t64 t65 : Value} (b4 g nn j : Nat) (p q : ByteArray) (b0 b1 m : Bool) (wr : World) (hj : j < nn) (hnn : nn ≤ 999999) (cb4 : wr.cell? ⟨b4, 0, none⟩ = some (.slice (some ⟨g, 0, none⟩) (nn + 1) (nn + 1))) (kb : wr.cell? ⟨g, j + 1, none⟩ = some (.bool b1)) (kb0 : wr.cell? ⟨g, j, none⟩ = some (.bool b0)) (hfr : wr.frozen? ⟨g, j, none⟩ = false) (hb4 : b4 < wr.heap.size) (hg : g < wr.heap.size)
    (hcall : Calls Tryz.prog 126 #[.string p, .string q] wr.drew fun e w' => e = .returned (.bool m) ∧ Below wr.heap.size wr w')
    (hQ : ∀ x46 x47 x48 x49 x50 x51 x52 x53 x54 x55 x56 x57 x58 w0, Below wr.heap.size wr w0 → Q .normal ⟨(t0 :: t1 :: t2 :: t3 :: t4 :: t5 :: (.pointer (some ⟨b4, 0, none⟩) : Value) :: t7 :: (.string p : Value) :: (.int .i64 (j : Int) : Value) :: (.string q : Value) :: t11 :: t12 :: t13 :: t14 :: t15 :: t16 :: t17 :: t18 :: t19 :: t20 :: t21 :: t22 :: t23 :: t24 :: t25 :: t26 :: t27 :: t28 :: t29 :: t30 :: t31 :: t32 :: t33 :: t34 :: t35 :: t36 :: t37 :: t38 :: t39 :: t40 :: t41 :: t42 :: t43 :: t44 :: t45 :: x46 :: x47 :: x48 :: x49 :: x50 :: x51 :: x52 :: x53 :: x54 :: x55 :: x56 :: x57 :: x58 :: t59 :: t60 :: t61 :: t62 :: t63 :: t64 :: t65 :: []).toArray, []⟩ (w0.setCell ⟨g, j, none⟩ (.bool (b1 && m)))) :
    (Code.region 14 ops14 true).wpIn (Fence.wide.inRound l) 0 Tryz.prog Q ⟨(t0 :: t1 :: t2 :: t3 :: t4 :: t5 :: (.pointer (some ⟨b4, 0, none⟩) : Value) :: t7 :: (.string p : Value) :: (.int .i64 (j : Int) : Value) :: (.string q : Value) :: t11 :: t12 :: t13 :: t14 :: t15 :: t16 :: t17 :: t18 :: t19 :: t20 :: t21 :: t22 :: t23 :: t24 :: t25 :: t26 :: t27 :: t28 :: t29 :: t30 :: t31 :: t32 :: t33 :: t34 :: t35 :: t36 :: t37 :: t38 :: t39 :: t40 :: t41 :: t42 :: t43 :: t44 :: t45 :: t46 :: t47 :: t48 :: t49 :: t50 :: t51 :: t52 :: t53 :: t54 :: t55 :: t56 :: t57 :: t58 :: t59 :: t60 :: t61 :: t62 :: t63 :: t64 :: t65 :: []).toArray, []⟩ wr := by
  unfold ops14
  have hwr : IntKind.i64.wrap ((j : Int) + 1) = (j : Int) + 1 := by rw [IntKind.wrap_i64]; omega
  have hj0 : (0 : Int) ≤ (j : Int) + 1 := by omega
  have hj0' : (0 : Int) ≤ (j : Int) := by omega
  have hj1 : (j : Int) + 1 < (nn : Int) + 1 := by omega
  have hj2 : (j : Int) < (nn : Int) + 1 := by omega
  have hjn : ((j : Int) + 1).toNat = j + 1 := by omega
  have hbd : Below wr.heap.size wr wr.drew := (Below.refl _ _).drew
  refine wpIn_region_any (by kernel_rfl) (wpAnyIn_inv (I := R14 (fun x46 x47 x48 x49 x50 x51 x52 x53 x54 x55 x56 x57 x58 => (t0 :: t1 :: t2 :: t3 :: t4 :: t5 :: (.pointer (some ⟨b4, 0, none⟩) : Value) :: t7 :: (.string p : Value) :: (.int .i64 (j : Int) : Value) :: (.string q : Value) :: t11 :: t12 :: t13 :: t14 :: t15 :: t16 :: t17 :: t18 :: t19 :: t20 :: t21 :: t22 :: t23 :: t24 :: t25 :: t26 :: t27 :: t28 :: t29 :: t30 :: t31 :: t32 :: t33 :: t34 :: t35 :: t36 :: t37 :: t38 :: t39 :: t40 :: t41 :: t42 :: t43 :: t44 :: t45 :: x46 :: x47 :: x48 :: x49 :: x50 :: x51 :: x52 :: x53 :: x54 :: x55 :: x56 :: x57 :: x58 :: t59 :: t60 :: t61 :: t62 :: t63 :: t64 :: t65 :: []).toArray) g nn j p q b1 m wr) ?hend ?hstep _ _ _ _ ?hu ?hinit)
  case hu => exact Nat.le_refl _
  case hinit =>
    exact ⟨rfl, ⟨t46, t47, t48, t49, t50, t51, t52, t53, t54, t55, t56, t57, t58, rfl, fun h => by (rw [fl_none] at h; cases h), fun h => by (rw [fl_none] at h; cases h), fun h => by (rw [fl_none] at h; cases h), fun h => by (rw [fl_none] at h; cases h), fun h => by (rw [fl_none] at h; cases h), fun h => by (rw [fl_none] at h; cases h), fun h => by (rw [fl_none] at h; cases h), fun h => by (rw [fl_none] at h; cases h), fun h _ => by (rw [fl_none] at h; cases h), fun h _ => by (rw [fl_none] at h; cases h), fun h _ => by (rw [fl_none] at h; cases h), fun h => by (rw [fl_none] at h; cases h), fun h => by (rw [fl_none] at h; cases h)⟩, .inl ⟨fl_none _ _, hbd, fun _ => rfl⟩⟩
  case hend =>
    intro listed a' w' hI hr
    have hall := all_listed' (ops := _) hI.size hr (after_ok' (by kernel_rfl))
    have h13 : fl listed 13 = true := hall 13 (by decide)
    obtain ⟨x46, x47, x48, x49, x50, x51, x52, x53, x54, x55, x56, x57, x58, rfl, _⟩ := hI.slots
    rcases hI.world with ⟨h, _⟩ | ⟨_, _, w0, hb, rfl⟩
    · rw [h13] at h; cases h
    · exact hQ x46 x47 x48 x49 x50 x51 x52 x53 x54 x55 x56 x57 x58 w0 hb
  case hstep =>
    intro listed a' w' i o hI ho hi hdep K' hK
    have hlt : i < 14 := (Array.getElem?_eq_some_iff.1 ho).1
    have hls := hI.size
    have hsz' : (listed.setIfInBounds i true).size = 14 := by rw [Array.size_setIfInBounds]; exact hls
    have hwo := hI.world
    obtain ⟨x46, x47, x48, x49, x50, x51, x52, x53, x54, x55, x56, x57, x58, rfl, c0, c1, c2, c3, c4, c5, c6, c7, c8, c9, c10, c11, c12⟩ := hI.slots
    have hph : i < 13 → fl listed 13 = false ∧ Below wr.heap.size wr w' ∧ (fl listed 10 = false → w' = wr.drew) := by
      intro h
      rcases hwo with h1 | ⟨_, h2, _⟩
      · exact h1
      · have := h2 i h
        rw [fl_not hi] at this
        cases this
    have hwk : i < 13 → i ≠ 10 → (fl (listed.setIfInBounds i true) 13 = false ∧ Below wr.heap.size wr w' ∧ (fl (listed.setIfInBounds i true) 10 = false → w' = wr.drew)) := by
      intro h h10
      obtain ⟨a1, a2, a3⟩ := hph h
      exact ⟨by rw [fl_ne (by omega)]; exact a1, a2, fun h => a3 (by rwa [fl_ne (by omega)] at h)⟩
    match i, hlt with
    | 0, _ =>
      obtain rfl := Option.some.inj ho
      obtain ⟨p1, p2, p3⟩ := hph (by decide)
      have k4 := (p2.cell (p := ⟨b4, 0, none⟩) hb4).trans cb4
      refine st_valIn (v := .slice (some ⟨g, 0, none⟩) (nn + 1) (nn + 1)) (w' := w') rfl (fun _ h => by cases h) ?_ (hK _ _ ⟨hsz', ⟨.slice (some ⟨g, 0, none⟩) (nn + 1) (nn + 1), x47, x48, x49, x50, x51, x52, x53, x54, x55, x56, x57, x58, rfl, fun _ => rfl, fun h => c1 (by rwa [fl_ne (by decide)] at h), fun h => c2 (by rwa [fl_ne (by decide)] at h), fun h => c3 (by rwa [fl_ne (by decide)] at h), fun h => c4 (by rwa [fl_ne (by decide)] at h), fun h => c5 (by rwa [fl_ne (by decide)] at h), fun h => c6 (by rwa [fl_ne (by decide)] at h), fun h => c7 (by rwa [fl_ne (by decide)] at h), fun h hb => c8 (by rwa [fl_ne (by decide)] at h) hb, fun h hb => c9 (by rwa [fl_ne (by decide)] at h) hb, fun h hb => c10 (by rwa [fl_ne (by decide)] at h) hb, fun h => c11 (by rwa [fl_ne (by decide)] at h), fun h => c12 (by rwa [fl_ne (by decide)] at h)⟩, .inl (hwk (by decide) (by decide))⟩)
      simp [execOp, go_sem, Result.andThen, k4]
    | 1, _ =>
      obtain rfl := Option.some.inj ho
      obtain ⟨p1, p2, p3⟩ := hph (by decide)
      refine st_valIn (v := .int .i64 (j : Int)) (w' := w') rfl (fun _ h => by cases h) ?_ (hK _ _ ⟨hsz', ⟨x46, .int .i64 (j : Int), x48, x49, x50, x51, x52, x53, x54, x55, x56, x57, x58, rfl, fun h => c0 (by rwa [fl_ne (by decide)] at h), fun _ => rfl, fun h => c2 (by rwa [fl_ne (by decide)] at h), fun h => c3 (by rwa [fl_ne (by decide)] at h), fun h => c4 (by rwa [fl_ne (by decide)] at h), fun h => c5 (by rwa [fl_ne (by decide)] at h), fun h => c6 (by rwa [fl_ne (by decide)] at h), fun h => c7 (by rwa [fl_ne (by decide)] at h), fun h hb => c8 (by rwa [fl_ne (by decide)] at h) hb, fun h hb => c9 (by rwa [fl_ne (by decide)] at h) hb, fun h hb => c10 (by rwa [fl_ne (by decide)] at h) hb, fun h => c11 (by rwa [fl_ne (by decide)] at h), fun h => c12 (by rwa [fl_ne (by decide)] at h)⟩, .inl (hwk (by decide) (by decide))⟩)
      simp [execOp, go_sem]
    | 2, _ =>
      obtain rfl := Option.some.inj ho
      obtain ⟨p1, p2, p3⟩ := hph (by decide)
      have k4 := (p2.cell (p := ⟨b4, 0, none⟩) hb4).trans cb4
      refine st_valIn (v := .slice (some ⟨g, 0, none⟩) (nn + 1) (nn + 1)) (w' := w') rfl (fun _ h => by cases h) ?_ (hK _ _ ⟨hsz', ⟨x46, x47, .slice (some ⟨g, 0, none⟩) (nn + 1) (nn + 1), x49, x50, x51, x52, x53, x54, x55, x56, x57, x58, rfl, fun h => c0 (by rwa [fl_ne (by decide)] at h), fun h => c1 (by rwa [fl_ne (by decide)] at h), fun _ => rfl, fun h => c3 (by rwa [fl_ne (by decide)] at h), fun h => c4 (by rwa [fl_ne (by decide)] at h), fun h => c5 (by rwa [fl_ne (by decide)] at h), fun h => c6 (by rwa [fl_ne (by decide)] at h), fun h => c7 (by rwa [fl_ne (by decide)] at h), fun h hb => c8 (by rwa [fl_ne (by decide)] at h) hb, fun h hb => c9 (by rwa [fl_ne (by decide)] at h) hb, fun h hb => c10 (by rwa [fl_ne (by decide)] at h) hb, fun h => c11 (by rwa [fl_ne (by decide)] at h), fun h => c12 (by rwa [fl_ne (by decide)] at h)⟩, .inl (hwk (by decide) (by decide))⟩)
      simp [execOp, go_sem, Result.andThen, k4]
    | 3, _ =>
      obtain rfl := Option.some.inj ho
      obtain ⟨p1, p2, p3⟩ := hph (by decide)
      refine st_valIn (v := .int .i64 (j : Int)) (w' := w') rfl (fun _ h => by cases h) ?_ (hK _ _ ⟨hsz', ⟨x46, x47, x48, .int .i64 (j : Int), x50, x51, x52, x53, x54, x55, x56, x57, x58, rfl, fun h => c0 (by rwa [fl_ne (by decide)] at h), fun h => c1 (by rwa [fl_ne (by decide)] at h), fun h => c2 (by rwa [fl_ne (by decide)] at h), fun _ => rfl, fun h => c4 (by rwa [fl_ne (by decide)] at h), fun h => c5 (by rwa [fl_ne (by decide)] at h), fun h => c6 (by rwa [fl_ne (by decide)] at h), fun h => c7 (by rwa [fl_ne (by decide)] at h), fun h hb => c8 (by rwa [fl_ne (by decide)] at h) hb, fun h hb => c9 (by rwa [fl_ne (by decide)] at h) hb, fun h hb => c10 (by rwa [fl_ne (by decide)] at h) hb, fun h => c11 (by rwa [fl_ne (by decide)] at h), fun h => c12 (by rwa [fl_ne (by decide)] at h)⟩, .inl (hwk (by decide) (by decide))⟩)
      simp [execOp, go_sem]
    | 4, _ =>
      obtain rfl := Option.some.inj ho
      obtain ⟨p1, p2, p3⟩ := hph (by decide)
      have e3 := c3 (hdep ⟨3, .data⟩ (by simp) rfl)
      refine st_valIn (v := .int .i64 ((j : Int) + 1)) (w' := w') rfl (fun _ h => by cases h) ?_ (hK _ _ ⟨hsz', ⟨x46, x47, x48, x49, .int .i64 ((j : Int) + 1), x51, x52, x53, x54, x55, x56, x57, x58, rfl, fun h => c0 (by rwa [fl_ne (by decide)] at h), fun h => c1 (by rwa [fl_ne (by decide)] at h), fun h => c2 (by rwa [fl_ne (by decide)] at h), fun h => c3 (by rwa [fl_ne (by decide)] at h), fun _ => rfl, fun h => c5 (by rwa [fl_ne (by decide)] at h), fun h => c6 (by rwa [fl_ne (by decide)] at h), fun h => c7 (by rwa [fl_ne (by decide)] at h), fun h hb => c8 (by rwa [fl_ne (by decide)] at h) hb, fun h hb => c9 (by rwa [fl_ne (by decide)] at h) hb, fun h hb => c10 (by rwa [fl_ne (by decide)] at h) hb, fun h => c11 (by rwa [fl_ne (by decide)] at h), fun h => c12 (by rwa [fl_ne (by decide)] at h)⟩, .inl (hwk (by decide) (by decide))⟩)
      simp [execOp, go_sem, e3, hwr]
    | 5, _ =>
      obtain rfl := Option.some.inj ho
      obtain ⟨p1, p2, p3⟩ := hph (by decide)
      have e2 := c2 (hdep ⟨2, .data⟩ (by simp) rfl)
      have e4 := c4 (hdep ⟨4, .data⟩ (by simp) rfl)
      refine st_valIn (v := .pointer (some ⟨g, j + 1, none⟩)) (w' := w') rfl (fun _ h => by cases h) ?_ (hK _ _ ⟨hsz', ⟨x46, x47, x48, x49, x50, .pointer (some ⟨g, j + 1, none⟩), x52, x53, x54, x55, x56, x57, x58, rfl, fun h => c0 (by rwa [fl_ne (by decide)] at h), fun h => c1 (by rwa [fl_ne (by decide)] at h), fun h => c2 (by rwa [fl_ne (by decide)] at h), fun h => c3 (by rwa [fl_ne (by decide)] at h), fun h => c4 (by rwa [fl_ne (by decide)] at h), fun _ => rfl, fun h => c6 (by rwa [fl_ne (by decide)] at h), fun h => c7 (by rwa [fl_ne (by decide)] at h), fun h hb => c8 (by rwa [fl_ne (by decide)] at h) hb, fun h hb => c9 (by rwa [fl_ne (by decide)] at h) hb, fun h hb => c10 (by rwa [fl_ne (by decide)] at h) hb, fun h => c11 (by rwa [fl_ne (by decide)] at h), fun h => c12 (by rwa [fl_ne (by decide)] at h)⟩, .inl (hwk (by decide) (by decide))⟩)
      simp [execOp, go_sem, Result.andThen, e2, e4, hj0, hj1, hjn]
    | 6, _ =>
      obtain rfl := Option.some.inj ho
      obtain ⟨p1, p2, p3⟩ := hph (by decide)
      have k1 := (p2.cell (p := ⟨g, j + 1, none⟩) hg).trans kb
      have e5 := c5 (hdep ⟨5, .data⟩ (by simp) rfl)
      refine st_valIn (v := .bool b1) (w' := w') rfl (fun _ h => by cases h) ?_ (hK _ _ ⟨hsz', ⟨x46, x47, x48, x49, x50, x51, .bool b1, x53, x54, x55, x56, x57, x58, rfl, fun h => c0 (by rwa [fl_ne (by decide)] at h), fun h => c1 (by rwa [fl_ne (by decide)] at h), fun h => c2 (by rwa [fl_ne (by decide)] at h), fun h => c3 (by rwa [fl_ne (by decide)] at h), fun h => c4 (by rwa [fl_ne (by decide)] at h), fun h => c5 (by rwa [fl_ne (by decide)] at h), fun _ => rfl, fun h => c7 (by rwa [fl_ne (by decide)] at h), fun h hb => c8 (by rwa [fl_ne (by decide)] at h) hb, fun h hb => c9 (by rwa [fl_ne (by decide)] at h) hb, fun h hb => c10 (by rwa [fl_ne (by decide)] at h) hb, fun h => c11 (by rwa [fl_ne (by decide)] at h), fun h => c12 (by rwa [fl_ne (by decide)] at h)⟩, .inl (hwk (by decide) (by decide))⟩)
      simp [execOp, go_sem, Result.andThen, e5, k1]
    | 7, _ =>
      obtain rfl := Option.some.inj ho
      obtain ⟨p1, p2, p3⟩ := hph (by decide)
      have e6 := c6 (hdep ⟨6, .data⟩ (by simp) rfl)
      refine st_valIn (v := .bool b1) (w' := w') rfl (fun _ h => by cases h) ?_ (hK _ _ ⟨hsz', ⟨x46, x47, x48, x49, x50, x51, x52, .bool b1, x54, x55, x56, x57, x58, rfl, fun h => c0 (by rwa [fl_ne (by decide)] at h), fun h => c1 (by rwa [fl_ne (by decide)] at h), fun h => c2 (by rwa [fl_ne (by decide)] at h), fun h => c3 (by rwa [fl_ne (by decide)] at h), fun h => c4 (by rwa [fl_ne (by decide)] at h), fun h => c5 (by rwa [fl_ne (by decide)] at h), fun h => c6 (by rwa [fl_ne (by decide)] at h), fun _ => rfl, fun h hb => c8 (by rwa [fl_ne (by decide)] at h) hb, fun h hb => c9 (by rwa [fl_ne (by decide)] at h) hb, fun h hb => c10 (by rwa [fl_ne (by decide)] at h) hb, fun h => c11 (by rwa [fl_ne (by decide)] at h), fun h => c12 (by rwa [fl_ne (by decide)] at h)⟩, .inl (hwk (by decide) (by decide))⟩)
      simp [execOp, go_sem, e6]
    | 8, _ =>
      obtain rfl := Option.some.inj ho
      obtain ⟨p1, p2, p3⟩ := hph (by decide)
      have e7 := c7 (hdep ⟨7, .guard⟩ (by simp) rfl)
      subst e7
      cases b1 with
      | false => exact st_offIn rfl (hK _ _ ⟨hsz', ⟨x46, x47, x48, x49, x50, x51, x52, .bool false, undef, x55, x56, x57, x58, rfl, fun h => c0 (by rwa [fl_ne (by decide)] at h), fun h => c1 (by rwa [fl_ne (by decide)] at h), fun h => c2 (by rwa [fl_ne (by decide)] at h), fun h => c3 (by rwa [fl_ne (by decide)] at h), fun h => c4 (by rwa [fl_ne (by decide)] at h), fun h => c5 (by rwa [fl_ne (by decide)] at h), fun h => c6 (by rwa [fl_ne (by decide)] at h), fun h => c7 (by rwa [fl_ne (by decide)] at h), fun _ hb => (by cases hb), fun h hb => c9 (by rwa [fl_ne (by decide)] at h) hb, fun h hb => c10 (by rwa [fl_ne (by decide)] at h) hb, fun h => c11 (by rwa [fl_ne (by decide)] at h), fun h => c12 (by rwa [fl_ne (by decide)] at h)⟩, .inl (hwk (by decide) (by decide))⟩)
      | true =>
        refine st_onIn (v := .string p) (w' := w') rfl (fun _ h => by cases h) ?_ (hK _ _ ⟨hsz', ⟨x46, x47, x48, x49, x50, x51, x52, .bool true, .string p, x55, x56, x57, x58, rfl, fun h => c0 (by rwa [fl_ne (by decide)] at h), fun h => c1 (by rwa [fl_ne (by decide)] at h), fun h => c2 (by rwa [fl_ne (by decide)] at h), fun h => c3 (by rwa [fl_ne (by decide)] at h), fun h => c4 (by rwa [fl_ne (by decide)] at h), fun h => c5 (by rwa [fl_ne (by decide)] at h), fun h => c6 (by rwa [fl_ne (by decide)] at h), fun h => c7 (by rwa [fl_ne (by decide)] at h), fun _ _ => rfl, fun h hb => c9 (by rwa [fl_ne (by decide)] at h) hb, fun h hb => c10 (by rwa [fl_ne (by decide)] at h) hb, fun h => c11 (by rwa [fl_ne (by decide)] at h), fun h => c12 (by rwa [fl_ne (by decide)] at h)⟩, .inl (hwk (by decide) (by decide))⟩)
        simp [execOp, go_sem]
    | 9, _ =>
      obtain rfl := Option.some.inj ho
      obtain ⟨p1, p2, p3⟩ := hph (by decide)
      have e7 := c7 (hdep ⟨7, .guard⟩ (by simp) rfl)
      subst e7
      cases b1 with
      | false => exact st_offIn rfl (hK _ _ ⟨hsz', ⟨x46, x47, x48, x49, x50, x51, x52, .bool false, x54, undef, x56, x57, x58, rfl, fun h => c0 (by rwa [fl_ne (by decide)] at h), fun h => c1 (by rwa [fl_ne (by decide)] at h), fun h => c2 (by rwa [fl_ne (by decide)] at h), fun h => c3 (by rwa [fl_ne (by decide)] at h), fun h => c4 (by rwa [fl_ne (by decide)] at h), fun h => c5 (by rwa [fl_ne (by decide)] at h), fun h => c6 (by rwa [fl_ne (by decide)] at h), fun h => c7 (by rwa [fl_ne (by decide)] at h), fun h hb => c8 (by rwa [fl_ne (by decide)] at h) hb, fun _ hb => (by cases hb), fun h hb => c10 (by rwa [fl_ne (by decide)] at h) hb, fun h => c11 (by rwa [fl_ne (by decide)] at h), fun h => c12 (by rwa [fl_ne (by decide)] at h)⟩, .inl (hwk (by decide) (by decide))⟩)
      | true =>
        refine st_onIn (v := .string q) (w' := w') rfl (fun _ h => by cases h) ?_ (hK _ _ ⟨hsz', ⟨x46, x47, x48, x49, x50, x51, x52, .bool true, x54, .string q, x56, x57, x58, rfl, fun h => c0 (by rwa [fl_ne (by decide)] at h), fun h => c1 (by rwa [fl_ne (by decide)] at h), fun h => c2 (by rwa [fl_ne (by decide)] at h), fun h => c3 (by rwa [fl_ne (by decide)] at h), fun h => c4 (by rwa [fl_ne (by decide)] at h), fun h => c5 (by rwa [fl_ne (by decide)] at h), fun h => c6 (by rwa [fl_ne (by decide)] at h), fun h => c7 (by rwa [fl_ne (by decide)] at h), fun h hb => c8 (by rwa [fl_ne (by decide)] at h) hb, fun _ _ => rfl, fun h hb => c10 (by rwa [fl_ne (by decide)] at h) hb, fun h => c11 (by rwa [fl_ne (by decide)] at h), fun h => c12 (by rwa [fl_ne (by decide)] at h)⟩, .inl (hwk (by decide) (by decide))⟩)
        simp [execOp, go_sem]
    | 10, _ =>
      obtain rfl := Option.some.inj ho
      obtain ⟨p1, p2, p3⟩ := hph (by decide)
      have e7 := c7 (hdep ⟨7, .guard⟩ (by simp) rfl)
      have f8 := hdep ⟨8, .data⟩ (by simp) rfl
      have f9 := hdep ⟨9, .data⟩ (by simp) rfl
      subst e7
      have p4 := p3 (fl_not hi)
      subst p4
      have hl10 : fl (listed.setIfInBounds 10 true) 10 = true := fl_self (by omega)
      have hl13 : fl (listed.setIfInBounds 10 true) 13 = false := by rw [fl_ne (by decide)]; exact p1
      cases b1 with
      | false => exact st_offIn rfl (hK _ _ ⟨hsz', ⟨x46, x47, x48, x49, x50, x51, x52, .bool false, x54, x55, undef, x57, x58, rfl, fun h => c0 (by rwa [fl_ne (by decide)] at h), fun h => c1 (by rwa [fl_ne (by decide)] at h), fun h => c2 (by rwa [fl_ne (by decide)] at h), fun h => c3 (by rwa [fl_ne (by decide)] at h), fun h => c4 (by rwa [fl_ne (by decide)] at h), fun h => c5 (by rwa [fl_ne (by decide)] at h), fun h => c6 (by rwa [fl_ne (by decide)] at h), fun h => c7 (by rwa [fl_ne (by decide)] at h), fun h hb => c8 (by rwa [fl_ne (by decide)] at h) hb, fun h hb => c9 (by rwa [fl_ne (by decide)] at h) hb, fun _ hb => (by cases hb), fun h => c11 (by rwa [fl_ne (by decide)] at h), fun h => c12 (by rwa [fl_ne (by decide)] at h)⟩, .inl ⟨hl13, p2, fun h => absurd (hl10.symm.trans h) (by decide)⟩⟩)
      | true =>
        have e8 := c8 f8 rfl
        have e9 := c9 f9 rfl
        subst e8
        subst e9
        refine st_callIn (f := 126) (args := #[.string p, .string q]) rfl (fun _ h => by cases h) ?_ hcall ?_
        · simp [execOp, go_sem, resolve, invoke]
        · rintro e w'' ⟨rfl, hb⟩
          exact ⟨_, rfl, hK _ _ ⟨hsz', ⟨x46, x47, x48, x49, x50, x51, x52, .bool true, .string p, .string q, .bool m, x57, x58, rfl, fun h => c0 (by rwa [fl_ne (by decide)] at h), fun h => c1 (by rwa [fl_ne (by decide)] at h), fun h => c2 (by rwa [fl_ne (by decide)] at h), fun h => c3 (by rwa [fl_ne (by decide)] at h), fun h => c4 (by rwa [fl_ne (by decide)] at h), fun h => c5 (by rwa [fl_ne (by decide)] at h), fun h => c6 (by rwa [fl_ne (by decide)] at h), fun h => c7 (by rwa [fl_ne (by decide)] at h), fun h hb => c8 (by rwa [fl_ne (by decide)] at h) hb, fun h hb => c9 (by rwa [fl_ne (by decide)] at h) hb, fun _ _ => rfl, fun h => c11 (by rwa [fl_ne (by decide)] at h), fun h => c12 (by rwa [fl_ne (by decide)] at h)⟩, .inl ⟨hl13, hb, fun h => absurd (hl10.symm.trans h) (by decide)⟩⟩⟩
    | 11, _ =>
      obtain rfl := Option.some.inj ho
      obtain ⟨p1, p2, p3⟩ := hph (by decide)
      have e7 := c7 (hdep ⟨7, .data⟩ (by simp) rfl)
      have e7 := c7 (hdep ⟨7, .data⟩ (by simp) rfl)
      have f10 := hdep ⟨10, .data⟩ (by simp) rfl
      refine st_valIn (v := .bool (b1 && m)) (w' := w') rfl (fun _ h => by cases h) ?_ (hK _ _ ⟨hsz', ⟨x46, x47, x48, x49, x50, x51, x52, x53, x54, x55, x56, .bool (b1 && m), x58, rfl, fun h => c0 (by rwa [fl_ne (by decide)] at h), fun h => c1 (by rwa [fl_ne (by decide)] at h), fun h => c2 (by rwa [fl_ne (by decide)] at h), fun h => c3 (by rwa [fl_ne (by decide)] at h), fun h => c4 (by rwa [fl_ne (by decide)] at h), fun h => c5 (by rwa [fl_ne (by decide)] at h), fun h => c6 (by rwa [fl_ne (by decide)] at h), fun h => c7 (by rwa [fl_ne (by decide)] at h), fun h hb => c8 (by rwa [fl_ne (by decide)] at h) hb, fun h hb => c9 (by rwa [fl_ne (by decide)] at h) hb, fun h hb => c10 (by rwa [fl_ne (by decide)] at h) hb, fun _ => rfl, fun h => c12 (by rwa [fl_ne (by decide)] at h)⟩, .inl (hwk (by decide) (by decide))⟩)
      cases b1 with
      | false => simp [execOp, go_sem, e7]
      | true =>
        have e10 := c10 f10 rfl
        simp [execOp, go_sem, e7, e10]
    | 12, _ =>
      obtain rfl := Option.some.inj ho
      obtain ⟨p1, p2, p3⟩ := hph (by decide)
      have e0 := c0 (hdep ⟨0, .data⟩ (by simp) rfl)
      have e1 := c1 (hdep ⟨1, .data⟩ (by simp) rfl)
      refine st_valIn (v := .pointer (some ⟨g, j, none⟩)) (w' := w') rfl (fun _ h => by cases h) ?_ (hK _ _ ⟨hsz', ⟨x46, x47, x48, x49, x50, x51, x52, x53, x54, x55, x56, x57, .pointer (some ⟨g, j, none⟩), rfl, fun h => c0 (by rwa [fl_ne (by decide)] at h), fun h => c1 (by rwa [fl_ne (by decide)] at h), fun h => c2 (by rwa [fl_ne (by decide)] at h), fun h => c3 (by rwa [fl_ne (by decide)] at h), fun h => c4 (by rwa [fl_ne (by decide)] at h), fun h => c5 (by rwa [fl_ne (by decide)] at h), fun h => c6 (by rwa [fl_ne (by decide)] at h), fun h => c7 (by rwa [fl_ne (by decide)] at h), fun h hb => c8 (by rwa [fl_ne (by decide)] at h) hb, fun h hb => c9 (by rwa [fl_ne (by decide)] at h) hb, fun h hb => c10 (by rwa [fl_ne (by decide)] at h) hb, fun h => c11 (by rwa [fl_ne (by decide)] at h), fun _ => rfl⟩, .inl (hwk (by decide) (by decide))⟩)
      simp [execOp, go_sem, Result.andThen, e0, e1, hj0', hj2]
    | 13, _ =>
      obtain rfl := Option.some.inj ho
      have e11 := c11 (hdep ⟨11, .data⟩ (by simp) rfl)
      have e12 := c12 (hdep ⟨12, .data⟩ (by simp) rfl)
      have f10 := hdep ⟨10, .chain⟩ (by simp) rfl
      have hall : ∀ i, i < 13 → fl listed i = true := by
        intro i h
        match i, h with
        | 0, _ => exact hdep ⟨0, .phase⟩ (by simp) rfl
        | 1, _ => exact hdep ⟨1, .phase⟩ (by simp) rfl
        | 2, _ => exact hdep ⟨2, .phase⟩ (by simp) rfl
        | 3, _ => exact hdep ⟨3, .phase⟩ (by simp) rfl
        | 4, _ => exact hdep ⟨4, .phase⟩ (by simp) rfl
        | 5, _ => exact hdep ⟨5, .phase⟩ (by simp) rfl
        | 6, _ => exact hdep ⟨6, .phase⟩ (by simp) rfl
        | 7, _ => exact hdep ⟨7, .phase⟩ (by simp) rfl
        | 8, _ => exact hdep ⟨8, .phase⟩ (by simp) rfl
        | 9, _ => exact hdep ⟨9, .phase⟩ (by simp) rfl
        | 10, _ => exact f10
        | 11, _ => exact hdep ⟨11, .data⟩ (by simp) rfl
        | 12, _ => exact hdep ⟨12, .data⟩ (by simp) rfl
      rcases hwo with ⟨p1, p2, p3⟩ | ⟨h, _⟩
      · have k0 := (p2.cell (p := ⟨g, j, none⟩) hg).trans kb0
        have kf : w'.frozen? ⟨g, j, none⟩ = false := by
          unfold World.frozen? at hfr ⊢
          rw [p2.block g hg]
          exact hfr
        refine st_skpIn (w' := w'.setCell ⟨g, j, none⟩ (.bool (b1 && m))) rfl (fun _ h => by cases h) ?_ (hK _ _ ⟨hsz', ⟨x46, x47, x48, x49, x50, x51, x52, x53, x54, x55, x56, x57, x58, rfl, fun h => c0 (by rwa [fl_ne (by decide)] at h), fun h => c1 (by rwa [fl_ne (by decide)] at h), fun h => c2 (by rwa [fl_ne (by decide)] at h), fun h => c3 (by rwa [fl_ne (by decide)] at h), fun h => c4 (by rwa [fl_ne (by decide)] at h), fun h => c5 (by rwa [fl_ne (by decide)] at h), fun h => c6 (by rwa [fl_ne (by decide)] at h), fun h => c7 (by rwa [fl_ne (by decide)] at h), fun h hb => c8 (by rwa [fl_ne (by decide)] at h) hb, fun h hb => c9 (by rwa [fl_ne (by decide)] at h) hb, fun h hb => c10 (by rwa [fl_ne (by decide)] at h) hb, fun h => c11 (by rwa [fl_ne (by decide)] at h), fun h => c12 (by rwa [fl_ne (by decide)] at h)⟩, .inr ⟨fl_self (by omega), fun i h => by rw [fl_ne (by omega)]; exact hall i h, w', p2, rfl⟩⟩)
        simp [execOp, go_sem, Result.andThen, e11, e12, k0, kf]
      · rw [fl_not hi] at h; cases h
end Go.Proofs.YtfemboojdablhaaGreatDoor.Rg
