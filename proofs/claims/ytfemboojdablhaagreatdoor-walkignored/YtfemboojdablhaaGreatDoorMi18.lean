import Derived.Test.YtfemboojdablhaaGreatDoorMi17
namespace Go.Proofs.YtfemboojdablhaaGreatDoor
open Go.RowKit Go.Maps
theorem results44 (tmps : Array Value) (w : World) (g : Nat) (cs : Array Value) (a b : Value) (hp : tmps.getD 2 undef = .pointer (some ⟨g, 0, none⟩)) (h3 : tmps.getD 3 undef = a) (h4 : tmps.getD 4 undef = b) (hg : w.heap[g]? = some (.cells cs 273 (0, 0))) (hi : cs.size = 259) :
    (results Tryz.f193 tmps).run Tryz.prog w = .ok (.tuple #[.agg cs, a, b]) w := by
  have hl := run_loadVar_row (P := Tryz.prog) w g 273 273 cs (0, 0) _ hg Tryz.underlying273 rfl (by rw [Tryz.size273, hi])
  have hp' : tmps[2]?.getD undef = .pointer (some ⟨g, 0, none⟩) := by simpa using hp
  have h3' : tmps[3]?.getD undef = a := by simpa using h3
  have h4' : tmps[4]?.getD undef = b := by simpa using h4
  simp [results, Tryz.results193, hp', h3', h4', asAddr, hl, Result.andThen]
theorem BBlk.bits {W : World} {g t o : Nat} {pre post : List Value} {S : BSet} (h : BBlk W g t pre S post) (ho : pre.length = o) : (loadCellsFrom ⟨g, o, none⟩ 0 256 #[]).run Tryz.prog W = .ok (bitsL S).toArray W := by
  subst ho
  have := run_loadCells_list (P := Tryz.prog) W ⟨g, pre.length, none⟩ (bitsL S) (fun j v hv => by
    have hadd : (⟨g, pre.length, none⟩ : Addr).add j = ⟨g, pre.length + j, none⟩ := by unfold Addr.add; split <;> simp_all
    rw [hadd]
    have hlt : j < 256 := by have := (List.getElem?_eq_some_iff.1 hv).1; rw [bitsL_len] at this; exact this
    rw [bitsL_get _ hlt] at hv
    rw [← hv]
    exact h.cell hlt)
  rw [bitsL_len] at this
  exact this
theorem step_load_cells {ops : Array Oper} {o : Oper} {a : Act} {w : World} {K : Act → World → Prop} {Q : Exit → Act → World → Prop} {E : Prop} (hg : o.guard = none) (ty : TypeId) (x : Operand) (ho : o.op = .load ty x)
    (ad : Addr) (hx : a.eval x = .pointer (some ad)) (n : Nat) (cs : Array Value) (hag : ∀ w, (isAgg ty).run Tryz.prog w = .ok true w) (hsz : ∀ w, (sizeOf ty).run Tryz.prog w = .ok n w) (hld : (loadCellsFrom ad 0 n #[]).run Tryz.prog w = .ok cs w)
    (h : K (a.put o.dst (.agg cs)) w) : if Region.wanted o (yielded ops a.tmps) = true then Oper.wp Tryz.prog o a w K Q else E := by
  refine st_val (v := .agg cs) (w' := w) hg ?_ h
  unfold execOp
  simp only [ho, hx, Instr.loadAt, Instr.sureAddr, loadVar, loadCells, Sem.run_bind, Sem.run_pure, Result.andThen_ok, hag, hsz, hld, if_true]
theorem fold_set : ∀ (cs : List Value) (k : Nat) (pre mid post : List Value), mid.length = cs.length → pre.length = k →
    (cs.zipIdx k).foldl (fun (z : List Value) (x : Value × Nat) => z.set x.2 x.1) (pre ++ (mid ++ post)) = pre ++ (cs ++ post)
  | [], k, pre, mid, post, h, _ => by
    have : mid = [] := List.length_eq_zero_iff.1 h
    simp [this]
  | c :: cs, k, pre, m :: mid, post, h, hk => by
    simp only [List.zipIdx_cons, List.foldl_cons]
    have e : (pre ++ (m :: mid ++ post)).set k c = (pre ++ [c]) ++ (mid ++ post) := by
      rw [List.set_append_right _ _ (by omega), hk, Nat.sub_self]
      simp
    rw [e, fold_set cs (k + 1) (pre ++ [c]) mid post (by simpa using h) (by simp [hk])]
    simp
theorem fold_arr (cs : List Value) (off : Nat) : ∀ (k : Nat) (z : List Value), (cs.zipIdx k).foldl (fun (z : Array Value) (x : Value × Nat) => z.setIfInBounds (off + x.2) x.1) z.toArray = ((cs.zipIdx k).foldl (fun (z : List Value) (x : Value × Nat) => z.set (off + x.2) x.1) z).toArray := by
  induction cs with
  | nil => intro k z; rfl
  | cons c cs ih =>
    intro k z
    simp only [List.zipIdx_cons, List.foldl_cons, List.setIfInBounds_toArray]
    exact ih (k + 1) _
theorem fold_off (cs : List Value) (off : Nat) : ∀ (k : Nat) (z : List Value), (cs.zipIdx k).foldl (fun (z : List Value) (x : Value × Nat) => z.set (off + x.2) x.1) z = (cs.zipIdx (off + k)).foldl (fun (z : List Value) (x : Value × Nat) => z.set x.2 x.1) z := by
  induction cs with
  | nil => intro k z; rfl
  | cons c cs ih =>
    intro k z
    simp only [List.zipIdx_cons, List.foldl_cons]
    exact ih (k + 1) _
def places112 : List (Nat × Nat) := [(0, 1), (1, 1), (2, 1), (3, 256)]
theorem info112z : (Tryz.prog.info? 273).bind (·.zero) = some (.agg (pcL (.lit 0)).toArray) := by kernel_rfl
theorem places112_is : (match Tryz.prog.underlying 273 with | some (.struct fields) => fields.toList.mapM (fun f => (Tryz.prog.info? f.type).map fun i => (f.offset, i.size)) | _ => none) = some places112 := by kernel_rfl
theorem built112 (parts : List (Nat × Value)) : Tryz.prog.built 273 parts = Instr.fill (places112.toArray[·]?) (pcL (.lit 0)).toArray parts := by
  unfold Program.built
  have h1 := info112z
  have h2 := places112_is
  cases hi : Tryz.prog.info? 273 with
  | none => rw [hi] at h1; cases h1
  | some it =>
    rw [hi] at h1
    have h1' : it.zero = some (.agg (pcL (.lit 0)).toArray) := h1
    cases hu : Tryz.prog.underlying 273 with
    | none => rw [hu] at h2; cases h2
    | some d =>
      rw [hu] at h2
      cases d <;> first | (cases h2; done) | skip
      case struct fields =>
        simp only at h2
        simp only [h1', h2]
        rfl
theorem build_has (S : BSet) (w : World) : (Instr.build 273 #[(3, .agg (bitsL S).toArray), (1, .bool true)]).run Tryz.prog w = .ok (.agg (pcL (.wild false S)).toArray) w := by
  refine run_build w 273 _ _ ?_
  rw [built112]
  have e1 : (bitsL S).toArray.size = 256 := by rw [List.size_toArray, bitsL_len]
  have e2 : (pcL (.lit 0)).toArray.size = 259 := by rw [List.size_toArray, pcL_len]
  have e3 : ((bitsL S).toArray.zipIdx.foldl (fun (cs : Array Value) (x : Value × Nat) => cs.setIfInBounds (3 + x.2) x.1) (pcL (.lit 0)).toArray) = (pcPre (.lit 0) ++ (bitsL S ++ [])).toArray := by
    rw [← Array.foldl_toList, Array.toList_zipIdx]
    rw [fold_arr, fold_off]
    have h3 := fold_set (bitsL S) 3 (pcPre (.lit 0)) (bitsL noneD) [] (by rw [bitsL_len, bitsL_len]) rfl
    rw [show pcL (.lit 0) = pcPre (.lit 0) ++ (bitsL noneD ++ []) from rfl, show 3 + 0 = 3 from rfl, h3]
  unfold Instr.fill
  show (match (some (3, 256) : Option (Nat × Nat)) with | none => none | some (off, size) => if (bitsL S).toArray.size ≠ size || off + (bitsL S).toArray.size > (pcL (.lit 0)).toArray.size then none else _) = _
  simp only [e1, e2]
  rw [if_neg (by decide)]
  show Instr.fill _ ((bitsL S).toArray.zipIdx.foldl (fun (cs : Array Value) (x : Value × Nat) => cs.setIfInBounds (3 + x.2) x.1) (pcL (.lit 0)).toArray) _ = _
  rw [e3]
  unfold Instr.fill
  show (match (some (1, 1) : Option (Nat × Nat)) with | none => none | some (off, size) => if (#[Value.bool true] : Array Value).size ≠ size || off + (#[Value.bool true] : Array Value).size > (pcPre (.lit 0) ++ (bitsL S ++ [])).toArray.size then none else _) = _
  have e4 : (pcPre (.lit 0) ++ (bitsL S ++ [])).toArray.size = 259 := by
    rw [List.size_toArray, List.length_append, List.length_append, bitsL_len, pcPre_len]
    rfl
  simp only [e4]
  rw [if_neg (by decide)]
  unfold Instr.fill
  show some ((pcPre (.lit 0) ++ (bitsL S ++ [])).toArray.setIfInBounds 1 (.bool true)) = _
  rw [List.setIfInBounds_toArray]
  rfl
theorem step_build {ops : Array Oper} {o : Oper} {a : Act} {w : World} {K : Act → World → Prop} {Q : Exit → Act → World → Prop} {E : Prop} (hg : o.guard = none) (t : TypeId) (ps : Array (Nat × Operand)) (ho : o.op = .build t ps)
    (vs : Array (Nat × Value)) (hv : (ps.map fun (i, x) => (i, a.eval x)) = vs) (v : Value) (hrun : ∀ w, (Instr.build t vs).run Tryz.prog w = .ok v w)
    (h : K (a.put o.dst v) w) : if Region.wanted o (yielded ops a.tmps) = true then Oper.wp Tryz.prog o a w K Q else E := by
  refine st_val (v := v) (w' := w) hg ?_ h
  unfold execOp
  simp only [ho, hv, Sem.run_bind, Sem.run_pure, Result.andThen_ok, hrun]
def pcl (S : BSet) (n : Int) (g : Nat) : List (Option (Nat × Value)) :=
  [some (41, .pointer (some ⟨g, 2, none⟩)), some (42, .agg (bitsL S).toArray), some (43, .agg (pcL (.wild false S)).toArray), some (44, .pointer (some ⟨g, 258, none⟩)), some (45, .int .i64 n), none, some (3, .int .i64 n), some (4, .int .i64 0)]
def pdst : List (Option Nat) := [some 41, some 42, some 43, some 44, some 45, none, some 3, some 4]
theorem pcl_dst (S : BSet) (n : Int) (g k d : Nat) (v : Value) (h : (pcl S n g)[k]? = some (some (d, v))) : pdst[k]? = some (some d) := by
  match k, h with
  | 0, h => cases h; rfl
  | 1, h => cases h; rfl
  | 2, h => cases h; rfl
  | 3, h => cases h; rfl
  | 4, h => cases h; rfl
  | 6, h => cases h; rfl
  | 7, h => cases h; rfl
def plone (i d : Nat) : Bool := (List.range 8).all (fun k => k == i || pdst.getD k none != some d) && d != 2 && d != 5
structure PI (S : BSet) (n : Int) (b g : Nat) (W WS : World) (listed : Array Bool) (a : Act) (w : World) : Prop where
  size : listed.size = 8
  tsize : a.tmps.size = 49
  defers : a.defers = []
  t2 : a.tmps[2]? = some (.pointer (some ⟨b, 0, none⟩))
  t5 : a.tmps[5]? = some (.pointer (some ⟨g, 0, none⟩))
  cl : ∀ (k d : Nat) (v : Value), (pcl S n g)[k]? = some (some (d, v)) → listed.getD k false = true → a.tmps[d]? = some v
  world : (listed.getD 5 false = true ∧ w = WS) ∨ (listed.getD 5 false = false ∧ w = W)
theorem listed_none (n k : Nat) : (Array.replicate n false).getD k false = false := by
  rw [Array.getD_eq_getD_getElem?, Array.getElem?_replicate]
  split <;> rfl
theorem tget {tmps : Array Value} {d : Nat} {v : Value} (h : tmps[d]? = some v) : tmps.getD d undef = v := by
  rw [Array.getD_eq_getD_getElem?, h]
  rfl
theorem after_ok' {ops : Array Oper} (h : ((List.range ops.size).all fun i => (ops[i]?).all fun o => o.after.all fun e => !(Region.binds .any e) || decide (e.on < i)) = true) : ∀ (i : Nat) (o : Oper), ops[i]? = some o → ∀ e ∈ o.after, Region.binds .any e = true → e.on < i := by
  intro i o ho e he hb
  rw [List.all_eq_true] at h
  have h1 := h i (List.mem_range.2 (Array.getElem?_eq_some_iff.1 ho).1)
  rw [ho] at h1
  simp only [Option.all_some, Array.all_eq_true_iff_forall_mem] at h1
  have := h1 e he
  rw [hb] at this
  simpa using this
theorem all_listed' {ops : Array Oper} {listed : Array Bool} (hs : listed.size = ops.size) (hr : Region.ready .any ops listed = []) (ha : ∀ (i : Nat) (o : Oper), ops[i]? = some o → ∀ e ∈ o.after, Region.binds .any e = true → e.on < i) : ∀ i, i < ops.size → listed.getD i false = true := by
  intro i
  induction i using Nat.strongRecOn with
  | ind i ih =>
    intro hi
    cases hl : listed.getD i false with
    | true => rfl
    | false =>
      have hl' : listed.getD i true = false := by
        rw [Array.getD_eq_getD_getElem?, Array.getElem?_eq_getElem (by omega)] at hl ⊢
        exact hl
      have : i ∈ Region.ready .any ops listed := by
        unfold Region.ready
        rw [List.mem_filter, List.mem_range]
        refine ⟨hi, ?_⟩
        rw [hl', Array.getElem?_eq_getElem hi]
        simp only [Bool.not_false, Bool.true_and, Option.map_some, Option.getD_some, Array.all_eq_true_iff_forall_mem]
        intro e he
        cases hb : Region.binds .any e with
        | false => simp
        | true =>
          have hlt := ha i ops[i] (Array.getElem?_eq_getElem hi) e he hb
          rw [ih e.on hlt (by omega)]
          simp
      rw [hr] at this
      cases this
theorem PI.put {S : BSet} {n : Int} {b g : Nat} {W WS : World} {listed : Array Bool} {a : Act} {w : World} (h : PI S n b g W WS listed a w) (i d : Nat) (v : Value) (hc : (pcl S n g)[i]? = some (some (d, v))) (_hi : listed.getD i true = false) (hl : plone i d = true) (hd : d < 49) : PI S n b g W WS (listed.setIfInBounds i true) (a.put (some d) v) w := by
  unfold plone at hl
  rw [Bool.and_eq_true, Bool.and_eq_true, List.all_eq_true] at hl
  obtain ⟨⟨l1, l2⟩, l3⟩ := hl
  refine ⟨by rw [Array.size_setIfInBounds]; exact h.size, put_size.trans h.tsize, put_defers.trans h.defers, ?_, ?_, ?_, ?_⟩
  · rw [put_get (by intro e; cases e; simp at l2)]; exact h.t2
  · rw [put_get (by intro e; cases e; simp at l3)]; exact h.t5
  · intro k d' v' hk hlk
    by_cases e : k = i
    · subst e
      rw [hc] at hk
      cases hk
      exact put_same (by rw [h.tsize]; exact hd)
    · rw [listed_set e] at hlk
      have hklt : k < 8 := (List.getElem?_eq_some_iff.1 hk).1
      have h1 := l1 k (List.mem_range.2 hklt)
      have h2 := pcl_dst S n g k d' v' hk
      rw [List.getD_eq_getElem?_getD, h2] at h1
      rw [put_get (by intro e2; cases e2; simp [e] at h1)]
      exact h.cl k d' v' hk hlk
  · have hi5 : i ≠ 5 := by intro e; subst e; cases hc
    rw [listed_set (fun e => hi5 e.symm)]
    exact h.world
def pieceV (l : List UInt8) : Value := match pieceD l with
  | .ok p rest => .tuple #[.agg (pcL p).toArray, .int .i64 ((l.length - rest.length : Nat) : Int), .int .i64 0]
  | .text => .tuple #[.agg (pcL (.lit 0)).toArray, .int .i64 0, .int .i64 2]
  | .range => .tuple #[.agg (pcL (.lit 0)).toArray, .int .i64 0, .int .i64 3]
theorem len_list (s : ByteArray) : s.data.toList.length = s.size := by rw [Array.length_toList]; rfl
set_option maxRecDepth 100000 in
set_option maxHeartbeats 4000000 in
theorem readPiece_any (s : ByteArray) (w : World) (h0 : 0 < s.size) (hs : s.size ≤ 1000000000) (hM : MaxW w) (h1 : 9 < w.heap.size) :
    Calls Tryz.prog 193 #[.string s] w fun e w' => e = .returned (pieceV s.data.toList) ∧ Below w.heap.size w w' := by
  obtain ⟨W1, hW1⟩ : ∃ W1, w.alloc (.cells (pcL (.lit 0)).toArray 273) = W1 := ⟨_, rfl⟩
  have hn1 : W1.heap[w.heap.size]? = some (.cells (pcL (.lit 0)).toArray 273 (0, 0)) := by rw [← hW1]; exact World.alloc_heap_new w _
  have b1 : Below w.heap.size w W1 := by rw [← hW1]; exact (Below.refl _ _).alloc (Nat.le_refl _) _
  have hlt1 : w.heap.size < W1.heap.size := (Array.getElem?_eq_some_iff.1 hn1).1
  have hM1 : MaxW W1 := hM.below h1 b1
  have hz := zero112
  obtain ⟨c, r, hl⟩ : ∃ c r, s.data.toList = c :: r := by
    cases hl : s.data.toList with
    | nil => have := len_list s; rw [hl] at this; simp at this; omega
    | cons c r => exact ⟨c, r, rfl⟩
  have hc0 : s[0] = c := by
    have h2 : s.data.toList[0]? = some s[0] := List.getElem?_eq_getElem (by simpa using h0)
    rw [hl] at h2
    exact (Option.some.inj h2).symm
  have hsz : s.size = r.length + 1 := by rw [← len_list s, hl]; rfl
  have h0I : (0 : Int) < (s.size : Int) := by omega
  /- how each answer is laid into the result's cell, whatever the world behind a call -/
  have FIN : ∀ (W : World) (p : PcD), Below w.heap.size w W → W.heap[w.heap.size]? = some (.cells (pcL (.lit 0)).toArray 273 (0, 0)) → (storeCells ⟨w.heap.size, 0, none⟩ (pcL p) 0).run Tryz.prog W = .ok () (W.setRow w.heap.size (pcL p).toArray) ∧ (W.setRow w.heap.size (pcL p).toArray).heap[w.heap.size]? = some (.cells (pcL p).toArray 273 (0, 0)) ∧ Below w.heap.size w (W.setRow w.heap.size (pcL p).toArray) := fun W p hb hn =>
    ⟨st_blk hn ((pcL_len _).trans (pcL_len _).symm) (pcL_one _), row_blk hn _, hb.grown (row_grown _ _ _) hb.size (fun k e => by cases e; exact Nat.le_refl _)⟩
  have KEEP : ∀ W, Below W1.heap.size W1 W → Below w.heap.size w W ∧ W.heap[w.heap.size]? = some (.cells (pcL (.lit 0)).toArray 273 (0, 0)) := fun W hb => ⟨b1.trans (hb.mono (by omega)), (hb.block _ hlt1).trans hn1⟩
  have LIT : ∀ (c : UInt8), Calls Tryz.prog 227 #[.int .u8 (c.toNat : Int)] W1 fun e w' => e = .returned (.agg (pcL (.lit c)).toArray) ∧ Below W1.heap.size W1 w' := fun c => oneByte_any c W1
  have hl0 := pcL_len (.lit 0)
  have HFIN := hide FIN
  have HKEEP := hide KEEP
  have HLIT := hide LIT
  clear FIN KEEP LIT
  by_cases h42 : c = 42
  · have hP : pieceV s.data.toList = .tuple #[.agg (pcL (.wild true allD)).toArray, .int .i64 1, .int .i64 0] := by
      unfold pieceV pieceD
      rw [hl]
      simp [h42]
    have e42 : ((s[0].toNat : Int) == 42) = true := by rw [hc0, h42]; rfl
    have hA := anyByte_any true W1
    rw [hP]
    have hl5 := pcL_len (.wild true allD)
    clear hl hc0 hsz h42 hn1 b1 hlt1 hM1 hP
    go_enter Tryz.func193, Tryz.ntmps193
    go_wp2_with fail
    refine hA.mono ?_
    rintro e w2 ⟨rfl, b2⟩
    obtain ⟨k1, k2⟩ := HKEEP.out w2 b2
    obtain ⟨f1, f2, f3⟩ := HFIN.out w2 (.wild true allD) k1 k2
    have HF2 := hide f2
    have HF3 := hide f3
    clear k1 k2 f2 f3 b2 hA
    go_wp2
    exact bodyPost_ret (results44 _ _ w.heap.size _ _ _ rfl rfl rfl HF2.out (by simp [hl5])) rfl ⟨rfl, HF3.out⟩
  · have e42 : ((s[0].toNat : Int) == 42) = false := by
      rw [hc0, beq_eq_false_iff_ne]
      intro e
      exact h42 (UInt8.toNat_inj.1 (by show c.toNat = 42; omega))
    by_cases h63 : c = 63
    · have hP : pieceV s.data.toList = .tuple #[.agg (pcL (.wild false allD)).toArray, .int .i64 1, .int .i64 0] := by
        unfold pieceV pieceD
        rw [hl]
        simp [h63]
      have e63 : ((s[0].toNat : Int) == 63) = true := by rw [hc0, h63]; rfl
      have hA := anyByte_any false W1
      rw [hP]
      have hl5 := pcL_len (.wild false allD)
      clear hl hc0 hsz h63 hn1 b1 hlt1 hM1 hP h42
      go_enter Tryz.func193, Tryz.ntmps193
      go_wp2_with fail
      refine hA.mono ?_
      rintro e w2 ⟨rfl, b2⟩
      obtain ⟨k1, k2⟩ := HKEEP.out w2 b2
      obtain ⟨f1, f2, f3⟩ := HFIN.out w2 (.wild false allD) k1 k2
      have HF2 := hide f2
      have HF3 := hide f3
      clear k1 k2 f2 f3 b2 hA
      go_wp2
      exact bodyPost_ret (results44 _ _ w.heap.size _ _ _ rfl rfl rfl HF2.out (by simp [hl5])) rfl ⟨rfl, HF3.out⟩
    · have e63 : ((s[0].toNat : Int) == 63) = false := by
        rw [hc0, beq_eq_false_iff_ne]
        intro e
        exact h63 (UInt8.toNat_inj.1 (by show c.toNat = 63; omega))
      by_cases h92 : c = 92
      · have e92 : ((s[0].toNat : Int) == 92) = true := by rw [hc0, h92]; rfl
        cases hr : r with
        | nil =>
          have hP : pieceV s.data.toList = .tuple #[.agg (pcL (.lit 0)).toArray, .int .i64 0, .int .i64 2] := by
            unfold pieceV pieceD
            rw [hl, hr]
            simp [h92]
          have e1 : ((s.size : Int) == 1) = true := by rw [hsz, hr]; rfl
          rw [hP]
          obtain ⟨f1, f2, f3⟩ := HFIN.out W1 (.lit 0) b1 hn1
          have HF2 := hide f2
          have HF3 := hide f3
          clear hl hc0 hsz h92 hn1 b1 hlt1 hM1 hP h42 h63 f2 f3 hr
          go_enter Tryz.func193, Tryz.ntmps193
          go_wp2
          exact bodyPost_ret (results44 _ _ w.heap.size _ _ _ rfl rfl rfl HF2.out (by simp [hl0])) rfl ⟨rfl, HF3.out⟩
        | cons d r2 =>
          have hP : pieceV s.data.toList = .tuple #[.agg (pcL (.lit d)).toArray, .int .i64 2, .int .i64 0] := by
            unfold pieceV pieceD
            rw [hl, hr]
            simp [h92]
            omega
          have e1 : ((s.size : Int) == 1) = false := by rw [hsz, hr, beq_eq_false_iff_ne]; simp; omega
          have hs1 : 1 < s.size := by rw [hsz, hr]; simp
          have h1I : (1 : Int) < (s.size : Int) := by omega
          have hd : s[1] = d := by
            have h2 : s.data.toList[1]? = some s[1] := List.getElem?_eq_getElem (by simpa using hs1)
            rw [hl, hr] at h2
            exact (Option.some.inj h2).symm
          have hA := HLIT.out s[1]
          rw [hP, ← hd]
          have hl5 := pcL_len (.lit s[1])
          clear hl hc0 hsz h92 hn1 b1 hlt1 hM1 hP h42 h63 hr hd
          go_enter Tryz.func193, Tryz.ntmps193
          go_wp2_with fail
          refine hA.mono ?_
          rintro e w2 ⟨rfl, b2⟩
          obtain ⟨k1, k2⟩ := HKEEP.out w2 b2
          obtain ⟨f1, f2, f3⟩ := HFIN.out w2 (.lit s[1]) k1 k2
          have HF2 := hide f2
          have HF3 := hide f3
          clear k1 k2 f2 f3 b2 hA
          go_wp2
          exact bodyPost_ret (results44 _ _ w.heap.size _ _ _ rfl rfl rfl HF2.out (by simp [hl5])) rfl ⟨rfl, HF3.out⟩
      · have e92 : ((s[0].toNat : Int) == 92) = false := by
          rw [hc0, beq_eq_false_iff_ne]
          intro e
          exact h92 (UInt8.toNat_inj.1 (by show c.toNat = 92; omega))
        by_cases h91 : c = 91
        · have e91 : ((s[0].toNat : Int) == 91) = true := by rw [hc0, h91]; rfl
          have hPB : pieceV s.data.toList = (match bracketD true noD s.data.toList with
              | some p => if p.known = true then .tuple #[.agg (pcL (.wild false p.set)).toArray, .int .i64 ((s.size - p.rest.length : Nat) : Int), .int .i64 0] else .tuple #[.agg (pcL (.lit 0)).toArray, .int .i64 0, .int .i64 3]
              | none => .tuple #[.agg (pcL (.lit s[0])).toArray, .int .i64 1, .int .i64 0]) := by
            unfold pieceV pieceD
            rw [← len_list s, hc0, hl, h91]
            simp only [show ¬ ((91 : UInt8) = 42) by decide, show ¬ ((91 : UInt8) = 63) by decide, show ¬ ((91 : UInt8) = 92) by decide, if_false, if_true]
            cases bracketD true noD (91 :: r) with
            | none => simp
            | some p => cases hk : p.known <;> simp [hk]
          have HPB := hide hPB
          have hB := readBracket_any s ⟨#[33, 94]⟩ true W1 hs hM1 (by omega)
          have hz140 := zero140
          have HB1 := hide b1
          have HLT1 := hide hlt1
          clear hl hc0 hsz h92 hn1 b1 hlt1 hM1 hPB h42 h63 h91
          go_enter Tryz.func193, Tryz.ntmps193
          go_wp2_with fail
          refine hB.mono ?_
          rintro e w2 ⟨b2, hcase⟩
          clear hB
          obtain ⟨k1, k2⟩ := HKEEP.out w2 b2
          obtain ⟨g5, hg5⟩ : ∃ g5, g5 = w2.heap.size := ⟨_, rfl⟩
          have hwl : w.heap.size < w2.heap.size := (Array.getElem?_eq_some_iff.1 k2).1
          obtain ⟨W3, hW3⟩ : ∃ W3, w2.alloc (.cells (brL ⟨#[]⟩ false noneD 0 false).toArray 319) = W3 := ⟨_, rfl⟩
          have hn3 : W3.heap[w2.heap.size]? = some (.cells (brL ⟨#[]⟩ false noneD 0 false).toArray 319 (0, 0)) := by rw [← hW3]; exact World.alloc_heap_new w2 _
          have b23 : Below w2.heap.size w2 W3 := by rw [← hW3]; exact (Below.refl _ _).alloc (Nat.le_refl _) _
          rcases hcase with ⟨hno, rfl⟩ | ⟨p, hso, rfl⟩
          · have HNO : Hid (bracketD true noD s.data.toList = none) := hno
            have hst := st_blk hn3 (ys := brL ⟨#[]⟩ false noneD 0 false) ((brL_len _ _ _ _ _).trans (brL_len _ _ _ _ _).symm) (brL_one _ _ _ _ _)
            have hln := brL_len ⟨#[]⟩ false noneD 0 false
            obtain ⟨W4, hW4⟩ : ∃ W4, W3.setRow w2.heap.size (brL ⟨#[]⟩ false noneD 0 false).toArray = W4 := ⟨_, rfl⟩
            have hg34 : W3.grownBy W4 (some w2.heap.size) := by rw [← hW4]; exact row_grown _ _ _
            rw [hW4] at hst
            have b24 : Below w2.heap.size w2 W4 := b23.grown hg34 b23.size (fun k e => by cases e; exact Nat.le_refl _)
            have hA := oneByte_any s[0] W4
            have hl5 := pcL_len (.lit s[0])
            have HB24 := hide b24
            have HK1 := hide k1
            have HK2 := hide k2
            clear hn3 b23 hW4 hg34 b24 k1 k2 hno hg5 b2
            go_wp2_with fail
            refine hA.mono ?_
            rintro e w5 ⟨rfl, b5⟩
            have b25 : Below w2.heap.size w2 w5 := HB24.out.trans (b5.mono HB24.out.size)
            have k1 : Below w.heap.size w w5 := HK1.out.trans (b25.mono HK1.out.size)
            have k2 := (b25.block _ hwl).trans HK2.out
            obtain ⟨f1, f2, f3⟩ := HFIN.out w5 (.lit s[0]) k1 k2
            have HF2 := hide f2
            have HF3 := hide f3
            clear k1 k2 f2 f3 b5 hA b25 hst hW3
            go_wp2
            exact bodyPost_ret (results44 _ _ w.heap.size _ _ _ rfl rfl rfl HF2.out (by simp [hl5])) rfl ⟨by rw [HPB.out, HNO.out]; rfl, HF3.out⟩
          · have HSO : Hid (bracketD true noD s.data.toList = some p) := hso
            obtain ⟨n5, hn5⟩ : ∃ n5 : Int, ((s.size - p.rest.length : Nat) : Int) = n5 := ⟨_, rfl⟩
            have HN5 := hide hn5
            rw [hn5]
            have hst := st_blk hn3 (ys := brL ⟨#[33, 94]⟩ true p.set n5 p.known) ((brL_len _ _ _ _ _).trans (brL_len _ _ _ _ _).symm) (brL_one _ _ _ _ _)
            have hln := brL_len ⟨#[33, 94]⟩ true p.set n5 p.known
            obtain ⟨W4, hW4⟩ : ∃ W4, W3.setRow w2.heap.size (brL ⟨#[33, 94]⟩ true p.set n5 p.known).toArray = W4 := ⟨_, rfl⟩
            have hg34 : W3.grownBy W4 (some w2.heap.size) := by rw [← hW4]; exact row_grown _ _ _
            have hbb : BBlk W4 w2.heap.size 319 (brPre ⟨#[33, 94]⟩ true) p.set (brPost n5 p.known) := by rw [← hW4]; exact row_blk hn3 _
            rw [hW4] at hst
            have b24 : Below w2.heap.size w2 W4 := b23.grown hg34 b23.size (fun k e => by cases e; exact Nat.le_refl _)
            have k14 : Below w.heap.size w W4 := k1.trans (b24.mono k1.size)
            have k24 := (b24.block _ hwl).trans k2
            have hkn := hbb.known
            have hle := hbb.len
            cases hk : p.known with
            | false =>
              rw [hk] at hkn hst hln
              obtain ⟨f1, f2, f3⟩ := HFIN.out W4 (.lit 0) k14 k24
              have HF2 := hide f2
              have HF3 := hide f3
              clear hn3 b23 hW4 hg34 b24 k1 k2 hso hg5 b2 k14 k24 hbb f2 f3 hn5
              go_wp2
              exact bodyPost_ret (results44 _ _ w.heap.size _ _ _ rfl rfl rfl HF2.out (by simp [hl0])) rfl ⟨by rw [HPB.out, HSO.out]; simp [hk], HF3.out⟩
            | true =>
              rw [hk] at hkn hst hln
              have hbits : (loadCellsFrom ⟨w2.heap.size, 2, none⟩ 0 256 #[]).run Tryz.prog W4 = .ok (bitsL p.set).toArray W4 := hbb.bits rfl
              obtain ⟨f1, f2, f3⟩ := HFIN.out W4.drew (.wild false p.set) ⟨k14.os, k14.tape, k14.output, k14.size, k14.block⟩ k24
              have HF2 := hide f2
              have HF3 := hide f3
              have hbd : (loadCellsFrom ⟨w2.heap.size, 2, none⟩ 0 256 #[]).run Tryz.prog W4.drew = .ok (bitsL p.set).toArray W4.drew := BBlk.bits (W := W4.drew) hbb rfl
              have HBD := hide hbd
              have HBB := hide hbb
              have hlp := pcL_len (.wild false p.set)
              clear hn3 b23 hW4 hg34 b24 k1 k2 hso hg5 b2 k14 k24 f2 f3 hn5 hbb hbits hbd
              go_wp2_with fail
              rename_i KK aK
              obtain ⟨g5, hg5⟩ : ∃ g5, w2.heap.size = g5 := ⟨_, rfl⟩
              rw [hg5] at HBD hle HBB
              have hg5w : w.heap.size ≠ g5 := by omega
              rw [hg5]
              obtain ⟨WS, hWS⟩ : ∃ WS, W4.drew.setRow w.heap.size (pcL (.wild false p.set)).toArray = WS := ⟨_, rfl⟩
              rw [hWS] at f1 HF2 HF3
              have hleS : WS.cell? ⟨g5, 258, none⟩ = some (.int .i64 n5) := by
                have hg := row_grown W4.drew w.heap.size (pcL (.wild false p.set)).toArray
                rw [hWS] at hg
                exact hg.cell (show W4.drew.cell? ⟨g5, 258, none⟩ = some (.int .i64 n5) from hle) (fun e => hg5w (Option.some.inj e).symm)
              have hbdS : (loadCellsFrom ⟨g5, 2, none⟩ 0 256 #[]).run Tryz.prog WS = .ok (bitsL p.set).toArray WS := by
                have hg := row_grown W4.drew w.heap.size (pcL (.wild false p.set)).toArray
                rw [hWS] at hg
                exact BBlk.bits (BBlk.kept (W := W4.drew) HBB.out hg (fun e => hg5w (Option.some.inj e).symm)) rfl
              refine wp_region_any (by kernel_rfl) (wpAny_inv (I := PI p.set n5 w.heap.size g5 W4.drew WS) ?hend ?hstep _ _ _ _ (by decide) ?hinit)
              case hinit => exact ⟨rfl, rfl, rfl, rfl, rfl, fun k d v _ hl => absurd hl (by rw [listed_none]; simp), .inr ⟨listed_none _ _, rfl⟩⟩
              case hend =>
                intro listed a' w' hI hr
                have hall := all_listed' (ops := _) hI.size hr (after_ok' (by kernel_rfl))
                have hl : ∀ k, k < 8 → listed.getD k false = true := hall
                refine aK _ _ (wp_ret ?_)
                have r3 := hI.cl 6 3 _ rfl (hl 6 (by decide))
                have r4 := hI.cl 7 4 _ rfl (hl 7 (by decide))
                rcases hI.world with ⟨_, hw⟩ | ⟨h5, _⟩
                · rw [hw]
                  have hfin : bodyPost Tryz.prog Tryz.f193 (fun e w' => e = .returned (pieceV s.data.toList) ∧ Below w.heap.size w w') Exit.ret a' WS := by
                    refine bodyPost_ret (results44 _ _ w.heap.size _ _ _ (tget hI.t2) (tget r3) (tget r4) HF2.out (by simp [hlp])) hI.defers ⟨?_, HF3.out⟩
                    rw [HPB.out, HSO.out]
                    simp [hk, HN5.out]
                  exact hfin
                · rw [hl 5 (by decide)] at h5; cases h5
              case hstep =>
                intro listed a' w' i o hI ho hi hdep K' hK
                have hlt : i < 8 := (Array.getElem?_eq_some_iff.1 ho).1
                match i, hlt with
                | 0, _ => obtain rfl := Option.some.inj ho; exact st_val rfl (by have h5 := hI.t5; simp [execOp, go_sem, h5, Result.andThen]) (hK _ _ (hI.put 0 41 (.pointer (some ⟨g5, 2, none⟩)) rfl hi (by decide) (by decide)))
                | 1, _ =>
                  obtain rfl := Option.some.inj ho
                  refine step_load_cells rfl 271 (.tmp 41) rfl ⟨g5, 2, none⟩ (ev_tmp (hI.cl 0 41 _ rfl (hdep ⟨0, .data⟩ (by simp) rfl))) 256 _ Tryz.isAgg271 Tryz.sizeOf271 ?_ (hK _ _ (hI.put 1 42 _ rfl hi (by decide) (by decide)))
                  rcases hI.world with ⟨_, rfl⟩ | ⟨_, rfl⟩
                  · exact hbdS
                  · exact HBD.out
                | 2, _ =>
                  obtain rfl := Option.some.inj ho
                  have e42 := ev_tmp (hI.cl 1 42 _ rfl (hdep ⟨1, .data⟩ (by simp) rfl))
                  exact step_build rfl 273 _ rfl #[(3, .agg (bitsL p.set).toArray), (1, .bool true)] (by simp only [List.map_toArray, List.map_cons, List.map_nil, e42]; rfl) _ (build_has p.set) (hK _ _ (hI.put 2 43 _ rfl hi (by decide) (by decide)))
                | 3, _ => obtain rfl := Option.some.inj ho; exact st_val rfl (by have h5 := hI.t5; simp [execOp, go_sem, h5, Result.andThen]) (hK _ _ (hI.put 3 44 (.pointer (some ⟨g5, 258, none⟩)) rfl hi (by decide) (by decide)))
                | 4, _ =>
                  obtain rfl := Option.some.inj ho
                  have e44 := hI.cl 3 44 _ rfl (hdep ⟨3, .data⟩ (by simp) rfl)
                  refine st_val (v := .int .i64 n5) (w' := w') rfl ?_ (hK _ _ (hI.put 4 45 _ rfl hi (by decide) (by decide)))
                  rcases hI.world with ⟨_, rfl⟩ | ⟨_, rfl⟩
                  · simp [execOp, go_sem, e44, hleS, Result.andThen]
                  · simp [execOp, go_sem, e44, hle, Result.andThen]
                | 5, _ =>
                  obtain rfl := Option.some.inj ho
                  have e43 := hI.cl 2 43 _ rfl (hdep ⟨2, .data⟩ (by simp) rfl)
                  have e2 := hI.t2
                  have hf : listed.getD 5 false = false := by
                    have hsz : 5 < listed.size := by rw [hI.size]; decide
                    rw [Array.getD_eq_getD_getElem?, Array.getElem?_eq_getElem hsz] at hi ⊢
                    exact hi
                  rcases hI.world with ⟨h5, _⟩ | ⟨_, rfl⟩
                  · rw [hf] at h5; cases h5
                  · refine st_skp (w' := WS) rfl ?_ (hK _ _ ⟨by rw [Array.size_setIfInBounds]; exact hI.size, hI.tsize, hI.defers, hI.t2, hI.t5, fun k d v hk hlk => ?_, .inl ⟨?_, rfl⟩⟩)
                    · simp [execOp, go_sem, e2, e43, hlp, f1, Result.andThen]
                    · by_cases e : k = 5
                      · subst e; cases hk
                      · rw [listed_set e] at hlk
                        exact hI.cl k d v hk hlk
                    · rw [Array.getD_eq_getD_getElem?, Array.getElem?_setIfInBounds_self_of_lt (by rw [hI.size]; decide)]; rfl
                | 6, _ => obtain rfl := Option.some.inj ho; exact st_val rfl (by rw [BigFrame.run_assign _ rfl, ev_tmp (hI.cl 4 45 _ rfl (hdep ⟨4, .data⟩ (by simp) rfl))]) (hK _ _ (hI.put 6 3 (.int .i64 n5) rfl hi (by decide) (by decide)))
                | 7, _ => obtain rfl := Option.some.inj ho; exact st_val rfl (by rw [BigFrame.run_assign _ rfl]; rfl) (hK _ _ (hI.put 7 4 (.int .i64 0) rfl hi (by decide) (by decide)))
        · have e91 : ((s[0].toNat : Int) == 91) = false := by
            rw [hc0, beq_eq_false_iff_ne]
            intro e
            exact h91 (UInt8.toNat_inj.1 (by show c.toNat = 91; omega))
          have hP : pieceV s.data.toList = .tuple #[.agg (pcL (.lit c)).toArray, .int .i64 1, .int .i64 0] := by
            unfold pieceV pieceD
            rw [hl]
            simp [h42, h63, h92, h91]
          have hA := HLIT.out s[0]
          rw [hP, ← hc0]
          have hl5 := pcL_len (.lit s[0])
          clear hl hc0 hsz h92 hn1 b1 hlt1 hM1 hP h42 h63 h91
          go_enter Tryz.func193, Tryz.ntmps193
          go_wp2_with fail
          refine hA.mono ?_
          rintro e w2 ⟨rfl, b2⟩
          obtain ⟨k1, k2⟩ := HKEEP.out w2 b2
          obtain ⟨f1, f2, f3⟩ := HFIN.out w2 (.lit s[0]) k1 k2
          have HF2 := hide f2
          have HF3 := hide f3
          clear k1 k2 f2 f3 b2 hA
          go_wp2
          exact bodyPost_ret (results44 _ _ w.heap.size _ _ _ rfl rfl rfl HF2.out (by simp [hl5])) rfl ⟨rfl, HF3.out⟩
end Go.Proofs.YtfemboojdablhaaGreatDoor
