/- Merged: ALayC, ALay, ARef. -/
import Derived.Test.YtfemboojdablhaaGreatDoorMi05
import Derived.Test.YtfemboojdablhaaGreatDoorMi00
namespace Go.Proofs.YtfemboojdablhaaGreatDoor
open Go.RowKit Go.Maps
theorem step_calls {P : Program} {ops : Array Oper} {o : Oper} {a : Act} {w : World} {K : Act → World → Prop} {Q : Exit → Act → World → Prop} {E : Prop} (hg : o.guard = none) (f : FuncId) (xs : Array Operand) (ts : Array TypeId) (hop : o.op = .call { callee := .value (.func f), args := xs, argTypes := ts })
    (args : Array Value) (hargs : xs.map a.eval = args) (eg : ∀ args w, (callFunc f args).run P w = .ok (.enter f args) w) {R : Ending → World → Prop} (h : Calls P f args w R) (hK : ∀ e w', R e w' → ∃ v, e = .returned v ∧ K (a.put o.dst v) w') :
    if Region.wanted o (yielded ops a.tmps) = true then Oper.wp P o a w K Q else E := by
  have hw : Region.wanted o (yielded ops a.tmps) = true := by simp [Region.wanted, hg]
  rw [if_pos hw]
  unfold Oper.wp
  have he : (execOp a.eval o).run P w = .ok (.enter f args) w := by
    simp only [execOp, hop, resolve, hargs]
    simp [go_sem, invoke, eg, Act.eval]
  rw [he]
  refine h.mono ?_
  intro e w' hr
  obtain ⟨v, rfl, hk⟩ := hK e w' hr
  exact hk
theorem kn_yes {W : World} {bm n : Nat} {D : DataW Unit} (hown : W.ownsMap Tryz.prog 9 numElem bm n D) (x : ByteArray) (hs : x.size ≤ maxLen) (m : Int) (hk : Maps.has D (lt x.data.toList) = true) (hat : D.atKey (lt x.data.toList) (.lit (.int .i64 0)) = .lit (.int .i64 m)) : (Instr.lookup 248 (.map (some bm)) (.string x) true).run Tryz.prog W = .ok (.tuple #[.int .i64 m, .bool true]) W := by
  obtain ⟨v, ps, hrun, hv⟩ := hown.look_ok lawS Tryz.underlying248 (Tryz.zero3 W) (zd := .lit (.int .i64 0)) (zp := []) rfl (keyS x hs)
  have hk1 : Maps.has D (.string x.data.toList) = true := hk
  have hat1 : D.atKey (.string x.data.toList) (.lit (.int .i64 0)) = .lit (.int .i64 m) := hat
  rw [hat1] at hv
  rw [num_inv hv, hk1] at hrun
  exact hrun
theorem kn_no {W : World} {bm n : Nat} {D : DataW Unit} (hown : W.ownsMap Tryz.prog 9 numElem bm n D) (x : ByteArray) (hs : x.size ≤ maxLen) (hk : Maps.has D (lt x.data.toList) = false) : (Instr.lookup 248 (.map (some bm)) (.string x) true).run Tryz.prog W = .ok (.tuple #[.int .i64 0, .bool false]) W := by
  obtain ⟨v, ps, hrun, hv⟩ := hown.look_ok lawS Tryz.underlying248 (Tryz.zero3 W) (zd := .lit (.int .i64 0)) (zp := []) rfl (keyS x hs)
  have hk1 : Maps.has D (.string x.data.toList) = false := hk
  have hz : D.atKey (.string x.data.toList) (.lit (.int .i64 0)) = .lit (.int .i64 0) := atKey_of_not_has hk1 _
  rw [hz] at hv
  rw [num_inv hv, hk1] at hrun
  exact hrun
theorem Tryz.info246 : (Tryz.prog.info? 246).map (fun i => (i.zero, i.size, i.bytes)) = some (some (.slice none 0 0), 1, 24) := by kernel_rfl
theorem Tryz.underlying234' : Tryz.prog.underlying 234 = some (.slice 246) := by kernel_rfl
theorem BBox.set2 {W : World} {b : Nat} {ov wv yv : Value} {st en : Int} {pv kv : Value} (h : BBox W b ov wv yv st en pv kv) (u : Value) : BBox (W.setCell ⟨b, 2, none⟩ u) b ov wv u st en pv kv := by
  obtain ⟨hlt, hk⟩ := Array.getElem?_eq_some_iff.1 h
  show (W.heap.modify b _)[b]? = _
  rw [Array.getElem?_eq_getElem (by rw [Array.size_modify]; exact hlt), Array.getElem_modify_self, hk]
  rfl
theorem own_below {B t size n m : Nat} {W W' : World} {v : Value} {xs : List Value} (h : W.ownsRow B t size v n xs) (hb : Below m W W') (hm : W.heap.size ≤ m := by exact Nat.le_refl _) : W'.ownsRow B t size v n xs := by
  refine ⟨h.1, ?_⟩
  rcases h.2 with h2 | ⟨g, cap, cur, e, hbb, hg, r⟩
  · exact .inl h2
  · exact .inr ⟨g, cap, cur, e, hbb, (hb.block g (by have := (Array.getElem?_eq_some_iff.1 hg).1; omega)).trans hg, r⟩
theorem far_cell {w5 w6 w7 : World} {b j m : Nat} {ob : Obj} {y u : Value} (hg7 : (w6.alloc ob).grownBy w7 y.ownBlock) (hb : b < w5.heap.size) (hb6 : Below m w5 w6) (hnb : y.ownBlock ≠ some b) (hc : w6.cell? ⟨b, j, none⟩ = some u) (hf : w6.frozen? ⟨b, j, none⟩ = false) : w7.cell? ⟨b, j, none⟩ = some u ∧ w7.frozen? ⟨b, j, none⟩ = false := by
  have hs := hb6.size
  have h1 : b < (w6.alloc ob).heap.size := by simp; omega
  have hal := (Below.refl w6.heap.size w6).alloc (Nat.le_refl _) ob
  exact ⟨(hg7.cell_far ⟨b, j, none⟩ h1 (fun e => hnb e.symm)).trans ((hal.cell (p := ⟨b, j, none⟩) (by show b < _; omega)).trans hc), (hg7.frozen_far ⟨b, j, none⟩ h1 (fun e => hnb e.symm)).trans ((hal.frozen (p := ⟨b, j, none⟩) (by show b < _; omega)).trans hf)⟩
theorem ty_drewN (w : World) (n : Nat) : TyG [] w (w.drewN n) := ⟨Nat.le_refl _, fun _ _ h _ => h⟩
theorem bs_nil {s : ByteArray} (h : s.data.toList = []) : s = ⟨#[]⟩ := by
  cases s with
  | mk d => simp at h; rw [h]
set_option maxRecDepth 100000 in
set_option maxHeartbeats 1000000 in
theorem layByte0_st (B b : Nat) (ov wv yv : Value) (st en : Int) (pv : Value) (bm : Nat) (D : BData) (g o p q : Nat) (op : Int) (ks : List ExprD) (w : World) (h : BSt B w b ov wv yv st en pv bm D) (he : ExprAt B w g o (.mk op [] ks)) (hB : B ≤ w.heap.size) :
    Calls Tryz.prog 232 #[.pointer (some ⟨b, 0, none⟩), sval g o p q] w fun e w' => e = .returned (.tuple #[]) ∧ BSt B w' b ov wv yv st en pv bm D ∧ FrB B pv pv w w' := by
  obtain ⟨hgB, k0, ⟨s, hs, hsz, k1⟩, _⟩ := he.inv
  have hs0 := bs_nil hs
  subst hs0
  have hal : TyG [] w (w.alloc (.cells #[.pointer (some ⟨g, o, none⟩), .int .i64 (p : Int), .int .i64 (q : Int)] 284)) := ty_alloc _ _
  have hbl : Below B w (w.alloc (.cells #[.pointer (some ⟨g, o, none⟩), .int .i64 (p : Int), .int .i64 (q : Int)] 284)) := (Below.refl _ _).alloc hB _
  have hsb : SBox (w.alloc (.cells #[.pointer (some ⟨g, o, none⟩), .int .i64 (p : Int), .int .i64 (q : Int)] 284)) w.heap.size g o p q := World.alloc_heap_new w _
  obtain ⟨s0, s1, s2⟩ := hsb.cells
  have k1' := (hbl.cell (p := ⟨g, o + 1, none⟩) hgB).trans k1
  have HST := hide (h.all hal)
  have HFR : Hid (FrB B pv pv w (w.alloc (.cells #[.pointer (some ⟨g, o, none⟩), .int .i64 (p : Int), .int .i64 (q : Int)] 284))) := FrB.ty0 hal hbl
  unfold sval
  go_enter Tryz.func232, Tryz.ntmps232
  go_wp2
  refine bodyPost_ret (results_none rfl _ _ _) rfl ?_
  exact ⟨rfl, HST.out, HFR.out⟩
def ByteP (B b : Nat) (ov _yv : Value) (st en : Int) (pv : Value) (bm : Nat) (D : BData) (p q : Nat) (tx : List UInt8) (o0 : Int) (w : World) (e : Ending) (w' : World) : Prop :=
  e = .returned (.tuple #[]) ∧ ∃ (n : Nat) (K' : List (List UInt8)) (svs' : List Value) (wv' yv' : Value), K'[n]? = some tx ∧ (∀ (i : Nat) (t : List UInt8), D.K[i]? = some t → K'[i]? = some t) ∧ K'.length ≤ D.K.length + 1 ∧
    BSt B w' b ov wv' yv' st en pv bm { D with outs := D.outs.set p (D.ways.length : Int), ways := D.ways ++ [⟨q, n, o0⟩], svs := svs', K := K' } ∧ FrB B pv pv w w'
set_option maxRecDepth 100000 in
set_option maxHeartbeats 4000000 in
theorem layByte_st (B b : Nat) (ov wv yv : Value) (st en : Int) (pv : Value) (bm : Nat) (D : BData) (g o p q : Nat) (op : Int) (tx : List UInt8) (ks : List ExprD) (o0 : Int) (w : World) (h : BSt B w b ov wv yv st en pv bm D) (he : ExprAt B w g o (.mk op tx ks)) (hne : tx ≠ []) (hp : D.outs[p]? = some o0) (hl : D.ways.length ≤ 1000000000) (hl2 : D.K.length ≤ 1000000000) (hB : B ≤ w.heap.size) :
    Calls Tryz.prog 232 #[.pointer (some ⟨b, 0, none⟩), sval g o p q] w (ByteP B b ov yv st en pv bm D p q tx o0 w) := by
  obtain ⟨hgB, k0, ⟨s, hs, hsz, k1⟩, _⟩ := he.inv
  have hse : s.toList.isEmpty = false := by
    rw [Bool.eq_false_iff]
    intro e
    rw [List.isEmpty_iff] at e
    rw [ByteArray.toList_eq] at e
    exact hne (hs.symm.trans e)
  have hal : TyG [] w (w.alloc (.cells #[.pointer (some ⟨g, o, none⟩), .int .i64 (p : Int), .int .i64 (q : Int)] 284)) := ty_alloc _ _
  have hbl : Below B w (w.alloc (.cells #[.pointer (some ⟨g, o, none⟩), .int .i64 (p : Int), .int .i64 (q : Int)] 284)) := (Below.refl _ _).alloc hB _
  have hsb : SBox (w.alloc (.cells #[.pointer (some ⟨g, o, none⟩), .int .i64 (p : Int), .int .i64 (q : Int)] 284)) w.heap.size g o p q := World.alloc_heap_new w _
  have hst := h.all hal
  have hfr : FrB B pv pv w (w.alloc (.cells #[.pointer (some ⟨g, o, none⟩), .int .i64 (p : Int), .int .i64 (q : Int)] 284)) := FrB.ty0 hal hbl
  have k1' := (hbl.cell (p := ⟨g, o + 1, none⟩) hgB).trans k1
  have hpn : pv.ownBlock ≠ some w.heap.size := fun e => by have := h.pv_lt _ e; omega
  have hsz1 : w.heap.size + 1 ≤ (w.alloc (.cells #[.pointer (some ⟨g, o, none⟩), .int .i64 (p : Int), .int .i64 (q : Int)] 284)).heap.size := by simp
  unfold sval
  go_enter Tryz.func232, Tryz.ntmps232
  obtain ⟨W1, hW1⟩ : ∃ W1, w.alloc (.cells #[.pointer (some ⟨g, o, none⟩), .int .i64 (p : Int), .int .i64 (q : Int)] 284) = W1 := ⟨_, rfl⟩
  rw [hW1] at hsb hst hfr k1' hbl hsz1
  have hB1 : B ≤ W1.heap.size := Nat.le_trans hB hbl.size
  obtain ⟨s0, s1, s2⟩ := hsb.cells
  obtain ⟨_, _, c2, _, _, _, c6, cf⟩ := hst.box.cells
  obtain ⟨Dm, hDm, hown, hok⟩ := hst.kn
  have hsm : s.size ≤ maxLen := by unfold maxLen; omega
  rcases hok s.data.toList with hno | ⟨hyes, n, hn, hat⟩
  · have hlook : ∀ k, (Instr.lookup 248 (.map (some bm)) (.string s) true).run Tryz.prog (W1.drewN k) = .ok (.tuple #[.int .i64 0, .bool false]) (W1.drewN k) := fun k => kn_no (show (W1.drewN k).ownsMap Tryz.prog 9 numElem bm D.K.length Dm from hown) s hsm hno
    have HST := hide hst
    have HFR := hide hfr
    have HSB := hide hsb
    clear hst hfr hsb
    go_wp2
    go_quiet (fail)
    have hst2 := HST.out.all (ty_drewN W1 nq)
    have hfr2 : FrB B pv pv w (W1.drewN nq) := HFR.out.trans (FrB.ty0 (ty_drewN W1 nq) ⟨rfl, rfl, rfl, Nat.le_refl _, fun _ _ => rfl⟩)
    have hsb2 : SBox (W1.drewN nq) w.heap.size g o p q := HSB.out
    have k12 : (W1.drewN nq).cell? ⟨g, o + 1, none⟩ = some (.string s) := k1'
    have hown2 : (W1.drewN nq).ownsMap Tryz.prog 9 numElem bm D.K.length Dm := hown
    have hB2 : B ≤ (W1.drewN nq).heap.size := hB1
    have hsz2 : w.heap.size + 1 ≤ (W1.drewN nq).heap.size := hsz1
    clear HST HFR HSB hlook hno hown s0 s1 s2 c2 c6 cf k1' hsz1 hbl hB1
    obtain ⟨W2, hW2⟩ : ∃ W2, W1.drewN nq = W2 := ⟨_, rfl⟩
    rw [hW2] at hst2 hfr2 hsb2 k12 hown2 hB2 hsz2 ⊢
    clear hW2 hW1
    obtain ⟨s0, s1, s2⟩ := hsb2.cells
    obtain ⟨_, _, c2, _, _, _, c6, cf⟩ := hst2.box.cells
    obtain ⟨ay, ny, cy, rfl, hny⟩ : ∃ (a : Option Addr) (n c : Nat), yv = .slice a n c ∧ n = D.K.length := by
      rcases hst2.byt.2 with ⟨e, h0⟩ | ⟨gy, cp, cur, e, _⟩
      · exact ⟨_, _, _, e, by rw [← hst2.len, h0]⟩
      · exact ⟨_, _, _, e, hst2.len⟩
    subst hny
    obtain ⟨w5, hrun, hup, hg5⟩ := World.ownsMap.update (val := .int .i64 (D.K.length : Int)) (d := .lit (.int .i64 (D.K.length : Int))) (ps := []) (show W2.drew.ownsMap Tryz.prog 9 numElem bm D.K.length Dm from hown2) lawS Tryz.underlying248 (by unfold maxLen; omega) (keyS s hsm) rfl
    have HG5 := hide hg5
    have HUP := hide hup
    have HST := hide hst2
    have HFR := hide hfr2
    have HSB := hide hsb2
    clear hg5 hup hst2 hfr2 hsb2
    go_wp2
    refine (fun (KEY : (?G : Prop)) => ?main) ?key
    case main =>
      go_region
      all_goals exact KEY
    case key =>
      have hst := HST.out
      have hmo : ∀ r, (some bm : Option Nat) = some r → ∃ ob : Obj, W2.drew.heap[r]? = some ob ∧ ob.isCells = false := fun r e => by
        cases e
        obtain ⟨es, cl, e⟩ := map_obj hown2
        exact ⟨_, e, rfl⟩
      have hbx5 : BBox w5 b ov wv (.slice ay D.K.length cy) st en pv (.map (some bm)) := cells_kept (W := W2.drew) hst.box HG5.out hmo
      have ho5 : w5.ownsRow B 3 1 ov D.outs.length (i64s D.outs) := ownsRow_keptN (W := W2.drew) hst.out HG5.out hmo
      have hw5 : w5.ownsRow B 290 3 wv D.ways.length (wayL D.ways) := ownsRow_keptN (W := W2.drew) hst.ways HG5.out hmo
      have hy5 : w5.ownsRow B 246 1 (.slice ay D.K.length cy) D.K.length D.svs := by
        have := ownsRow_keptN (W := W2.drew) hst.byt HG5.out hmo
        rw [hst.len] at this
        exact this
      have hv5 : ∀ (i : Nat) (v : Value), D.svs[i]? = some v → ∃ t, D.K[i]? = some t ∧ SetRow B w5 v (wordsOf t) := fun i v hv => by
        obtain ⟨t, ht, h1⟩ := hst.sets i v hv
        exact ⟨t, ht, ownsRow_keptN (W := W2.drew) h1.own HG5.out hmo, h1.lim⟩
      have hp5 : w5.ownsRow B 284 3 pv D.opn.length (spanL D.opn) := ownsRow_keptN (W := W2.drew) hst.opn HG5.out hmo
      have hk5 : KnownAre w5 bm (D.K ++ [tx]) := by
        have hup := HUP.out
        rw [hs] at hup
        exact kn_add hok hDm hup
      have hsb5 : SBox w5 w.heap.size g o p q := cells_kept (W := W2.drew) HSB.out HG5.out hmo
      have hbel5 : Below B W2 w5 := by
        have := HG5.out
        exact ⟨this.os, this.tape, this.output, this.size, fun k hk => this.block k (Nat.lt_of_lt_of_le hk hB2) (fun e => by cases e; have := hst.mB; omega)⟩
      have k15 : w5.cell? ⟨g, o + 1, none⟩ = some (.string s) := (hbel5.cell (p := ⟨g, o + 1, none⟩) hgB).trans k12
      have hfr5 : FrB B pv pv w w5 := HFR.out.trans ⟨hbel5, .inl rfl, fun z cs t hz ht _ => cells_kept (W := W2.drew) hz HG5.out hmo⟩
      have hB5 : B ≤ w5.heap.size := Nat.le_trans hB2 hbel5.size
      have HLEN := hide hst.len
      have hbB := hst.bB
      have HMB := hide hst.mB
      clear HG5 HUP HST HFR HSB hst s0 s1 s2 c2 c6 cf k12 hmo hrun
      obtain ⟨t0, t1, t2⟩ := hsb5.cells
      obtain ⟨_, _, c2, _, _, _, _, cf⟩ := hbx5.cells
      obtain ⟨i0, hi, hz0, hz1, hz2⟩ := info_parts Tryz.info246
      have HBY := hide (bytesOf_any s w5.drew hsz)
      have hblt5 : b < w5.heap.size := (Array.getElem?_eq_some_iff.1 hbx5).1
      have hnb5 := own_not_box hy5 hbx5 (by decide)
      have HALL : Hid (BBox w5 b ov wv (.slice ay D.K.length cy) st en pv (.map (some bm)) ∧ w5.ownsRow B 3 1 ov D.outs.length (i64s D.outs) ∧ w5.ownsRow B 290 3 wv D.ways.length (wayL D.ways) ∧ w5.ownsRow B 246 1 (.slice ay D.K.length cy) D.K.length D.svs ∧ (∀ (i : Nat) (v : Value), D.svs[i]? = some v → ∃ t, D.K[i]? = some t ∧ SetRow B w5 v (wordsOf t)) ∧ w5.ownsRow B 284 3 pv D.opn.length (spanL D.opn) ∧ KnownAre w5 bm (D.K ++ [tx]) ∧ SBox w5 w.heap.size g o p q ∧ FrB B pv pv w w5) := ⟨hbx5, ho5, hw5, hy5, hv5, hp5, hk5, hsb5, hfr5⟩
      clear hbx5 ho5 hw5 hy5 hv5 hp5 hk5 hsb5 hfr5 hbel5
      go_wp2
      refine (fun (KEY : ∀ (gv cv g6 cap6 : Nat) (w6 w7 : World), (SetRow w5.heap.size w6 (.slice (some ⟨gv, 0, none⟩) 4 cv) (wordsOf tx) ∧ Below w5.heap.size w5 w6 ∧ w7.ownsRow B 246 1 (.slice (some ⟨g6, 0, none⟩) (D.K.length + 1) cap6) (D.K.length + 1) (D.svs ++ [.slice (some ⟨gv, 0, none⟩) 4 cv]) ∧ (w6.alloc (.cells #[.slice (some ⟨gv, 0, none⟩) 4 cv] 246)).grownBy w7 (Value.slice ay D.K.length cy).ownBlock) → (?G2 : Nat → Nat → Nat → Nat → World → World → Prop) gv cv g6 cap6 w6 w7) => ?main2) ?key2
      case main2 =>
        go_region_law (first
          | (refine step_calls rfl 261 #[.tmp 55] #[9] rfl #[.string s] (by simp only [List.map_toArray, List.map_cons, List.map_nil]; rfl) (enters_of Tryz.func261 (by kernel_rfl) rfl) (unhide HBY) ?_; rintro e w6 ⟨v, rfl, hs6, hb6'⟩; have hb6 : Below w5.heap.size w5 w6 := ⟨hb6'.os, hb6'.tape, hb6'.output, hb6'.size, hb6'.block⟩; obtain ⟨gv, cv, hv, _, _⟩ := hs6.form (by rw [wordsOf_length]; decide); rw [wordsOf_length] at hv; subst hv; refine ⟨_, rfl, ?_⟩; have c26 : w6.cell? ⟨b, 2, none⟩ = some (.slice ay D.K.length cy) := (hb6.cell (p := ⟨b, 2, none⟩) hblt5).trans c2; have f26 : w6.frozen? ⟨b, 2, none⟩ = false := (hb6.frozen (p := ⟨b, 2, none⟩) hblt5).trans (cf 2); have c26a : (w6.alloc (.cells #[.slice (some ⟨gv, 0, none⟩) 4 cv] 246)).cell? ⟨b, 2, none⟩ = some (.slice ay D.K.length cy) := (((Below.refl w6.heap.size w6).alloc (Nat.le_refl _) _).cell (p := ⟨b, 2, none⟩) (Nat.lt_of_lt_of_le hblt5 hb6.size)).trans c26; have hy6 : w6.ownsRow B 246 1 (.slice ay D.K.length cy) D.K.length D.svs := own_below (unhide HALL).2.2.2.1 hb6)
          | (refine step_append_lies _ rfl (.tmp 50) (.tmp 57) 234 rfl B 246 i0 _ 1 24 Tryz.underlying234' hi hz0 hz1 hz2 rfl (by decide) (.slice ay D.K.length cy) D.K.length D.svs rfl (hy6.alloc _) ⟨w6.heap.size, 0, none⟩ 1 1 [.slice (some ⟨gv, 0, none⟩) 4 cv] rfl rfl (cell_one_new _ _ _) (by simp [Value.oneCell']) (by decide) (by unfold maxLen; omega) (by omega) (by have := hb6.size; simp; omega) _ rfl ?_; intro g7 cap7 w7 hown7 hg7 hat7 hlt7; obtain ⟨c27, f27⟩ := far_cell hg7 hblt5 hb6 hnb5 c26 f26))
        all_goals exact KEY gv cv g7 cap7 w6 w7 ⟨hs ▸ hs6, hb6, hown7, hg7⟩
      case key2 =>
        rintro gv cv g6 cap6 w6 w7 ⟨hs6, hb6, hown7, hg7⟩
        obtain ⟨hbx5, ho5, hw5, hy5, hv5, hp5, hk5, hsb5, hfr5⟩ := HALL.out
        have hal6 : Below w6.heap.size w6 (w6.alloc (.cells #[.slice (some ⟨gv, 0, none⟩) 4 cv] 246)) := (Below.refl _ _).alloc (Nat.le_refl _) _
        have hy6 : w6.ownsRow B 246 1 (.slice ay D.K.length cy) D.K.length D.svs := own_below hy5 hb6
        have hbx7 : BBox w7 b ov wv (.slice ay D.K.length cy) st en pv (.map (some bm)) := (hg7.block b (Nat.lt_of_lt_of_le hblt5 (Nat.le_trans hb6.size hal6.size)) (fun e => hnb5 e.symm)).trans ((hal6.block b (Nat.lt_of_lt_of_le hblt5 hb6.size)).trans ((hb6.block b hblt5).trans hbx5))
        have hset8 := set_grown w7 b 2 (.slice (some ⟨g6, 0, none⟩) (D.K.length + 1) cap6)
        have hG : GrowN w5 (w7.setCell ⟨b, 2, none⟩ (.slice (some ⟨g6, 0, none⟩) (D.K.length + 1) cap6)) [some b, (Value.slice ay D.K.length cy).ownBlock] := by
          refine ⟨hset8.os.trans (hg7.os.trans (hal6.os.trans hb6.os)), hset8.tape.trans (hg7.tape.trans (hal6.tape.trans hb6.tape)), hset8.output.trans (hg7.output.trans (hal6.output.trans hb6.output)), Nat.le_trans hb6.size (Nat.le_trans hal6.size (Nat.le_trans hg7.size hset8.size)), fun k hk hne => ?_⟩
          simp only [List.mem_cons, not_or, List.not_mem_nil, not_false_eq_true, and_true] at hne
          have hk6 := Nat.lt_of_lt_of_le hk hb6.size
          have hk7 := Nat.lt_of_lt_of_le hk6 hal6.size
          exact (hset8.block k (Nat.lt_of_lt_of_le hk7 hg7.size) hne.1).trans ((hg7.block k hk7 hne.2).trans ((hal6.block k hk6).trans (hb6.block k hk)))
        have hty := grown_ty (B := B) (T := [281, 246]) hG (fun g hg => by
          simp only [List.mem_cons, List.not_mem_nil, or_false] at hg
          rcases hg with hg | hg
          · cases hg; exact ⟨hbB, _, 281, by simp, hbx5⟩
          · obtain ⟨hb, cur, hc⟩ := own_cells hy5 hg.symm
            exact ⟨hb, cur, 246, by simp, hc⟩) hB5
        have hnew : SetRow B (w7.setCell ⟨b, 2, none⟩ (.slice (some ⟨g6, 0, none⟩) (D.K.length + 1) cap6)) (.slice (some ⟨gv, 0, none⟩) 4 cv) (wordsOf tx) := by
          obtain ⟨hgvB, cur, hgc⟩ := own_cells hs6.own rfl
          have n1 : (Value.slice (some ⟨gv, 0, none⟩) 4 cv).ownBlock ≠ (Value.slice ay D.K.length cy).ownBlock := fun e => own_not_box hy6 hgc (by decide) e.symm
          have r1 : (w6.alloc (.cells #[.slice (some ⟨gv, 0, none⟩) 4 cv] 246)).ownsRow w5.heap.size 205 1 (.slice (some ⟨gv, 0, none⟩) 4 cv) (wordsOf tx).length (u64s (wordsOf tx)) := hs6.own.alloc _
          have r2 := r1.kept hg7 (.inr n1)
          have r3 := ownsRow_setCell_other r2 (a := ⟨b, 2, none⟩) (own_not_box r2 hbx7 (by decide)) (.slice (some ⟨g6, 0, none⟩) (D.K.length + 1) cap6)
          refine ⟨⟨r3.1, ?_⟩, hs6.lim⟩
          rcases r3.2 with e | ⟨g', c', cur', e, hb', r⟩
          · exact .inl e
          · exact .inr ⟨g', c', cur', e, by omega, r⟩
        have hrow8 := ownsRow_setCell_other hown7 (a := ⟨b, 2, none⟩) (own_not_box hown7 hbx7 (by decide)) (.slice (some ⟨g6, 0, none⟩) (D.K.length + 1) cap6)
        have hbx8 := hbx7.set2 (.slice (some ⟨g6, 0, none⟩) (D.K.length + 1) cap6)
        have hfr8 : FrB B pv pv w (w7.setCell ⟨b, 2, none⟩ (.slice (some ⟨g6, 0, none⟩) (D.K.length + 1) cap6)) := hfr5.trans (FrB.of_ty hty.1 hty.2 (by decide))
        have hsb8 := hsb5.fr (FrB.of_ty (pv := pv) hty.1 hty.2 (by decide)) hpn
        obtain ⟨W8, hW8⟩ : ∃ W8, w7.setCell ⟨b, 2, none⟩ (.slice (some ⟨g6, 0, none⟩) (D.K.length + 1) cap6) = W8 := ⟨_, rfl⟩
        rw [hW8] at hG hty hnew hrow8 hbx8 hfr8 hsb8 ⊢
        have hst8 : BSt B W8 b ov wv (.slice (some ⟨g6, 0, none⟩) (D.K.length + 1) cap6) st en pv bm { D with svs := D.svs ++ [.slice (some ⟨gv, 0, none⟩) 4 cv], K := D.K ++ [tx] } := by
          refine ⟨hbx8, hbB, hty.1.row ho5 (by decide), hty.1.row hw5 (by decide), ?_, ?_, fun i v hv => ?_, hty.1.row hp5 (by decide), HMB.out, hty.1.kn hk5⟩
          · have e : (D.svs ++ [Value.slice (some ⟨gv, 0, none⟩) 4 cv]).length = D.K.length + 1 := by rw [List.length_append, HLEN.out]; rfl
            show W8.ownsRow B 246 1 _ (D.svs ++ [Value.slice (some ⟨gv, 0, none⟩) 4 cv]).length _
            rw [e]; exact hrow8
          · show (D.svs ++ [Value.slice (some ⟨gv, 0, none⟩) 4 cv]).length = (D.K ++ [tx]).length
            rw [List.length_append, List.length_append, HLEN.out]; rfl
          · rcases Nat.lt_or_ge i D.svs.length with hi | hi
            · have hv2 : D.svs[i]? = some v := by rw [← List.getElem?_append_left (l₂ := [Value.slice (some ⟨gv, 0, none⟩) 4 cv]) hi]; exact hv
              obtain ⟨t, ht, hs⟩ := hv5 i v hv2
              refine ⟨t, ?_, hty.1.set hs (by decide)⟩
              show (D.K ++ [tx])[i]? = some t
              rw [List.getElem?_append_left (by rw [← HLEN.out]; exact hi)]; exact ht
            · have hv2 : (D.svs ++ [Value.slice (some ⟨gv, 0, none⟩) 4 cv])[i]? = some v := hv
              have hil := (List.getElem?_eq_some_iff.1 hv2).1
              rw [List.length_append, List.length_singleton] at hil
              have hie : i = D.svs.length := by omega
              subst hie
              rw [List.getElem?_append_right (Nat.le_refl _), Nat.sub_self] at hv2
              cases hv2
              refine ⟨tx, ?_, hnew⟩
              show (D.K ++ [tx])[D.svs.length]? = some tx
              rw [HLEN.out]; simp
        clear hW8 hbx8 hrow8 hnew hty hG hset8 hbx7 hy6 hal6 hg7 hown7 hb6 hs6 hbx5 ho5 hw5 hy5 hv5 hp5 hk5 hsb5 hfr5 HALL t0 t1 t2 c2 cf k15 HBY
        obtain ⟨t0, t1, t2⟩ := hsb8.cells
        have hlnk := link_st B b ov wv _ st en pv bm _ p (q : Int) (D.K.length : Int) o0 W8.drew (hst8.all (ty_drew _)) hp hl (Nat.le_trans hB hfr8.bel.size)
        have HF2 : Hid (FrB B pv pv w W8.drew) := hfr8.trans (FrB.ty0 (ty_drew _) (Below.refl B _).drew)
        clear hst8 hfr8 hsb8
        go_wp2
        go_region_with (go_at_call 203; refine hlnk.mono ?_; rintro e w9 ⟨rfl, wv9, hst9, hfr9⟩)
        all_goals go_wp2
        all_goals first | refine bodyPost_ret (results_none rfl _ _ _) rfl ?_ | refine bodyPost_end (results_none rfl _ _ _) rfl ?_
        all_goals exact ⟨rfl, D.K.length, D.K ++ [tx], _, wv9, _, by simp, fun i t h => (List.getElem?_append_left (List.getElem?_eq_some_iff.1 h).1).trans h, by simp, hst9, HF2.out.trans hfr9⟩
  · have hlook : ∀ k, (Instr.lookup 248 (.map (some bm)) (.string s) true).run Tryz.prog (W1.drewN k) = .ok (.tuple #[.int .i64 (n : Int), .bool true]) (W1.drewN k) := fun k => kn_yes (show (W1.drewN k).ownsMap Tryz.prog 9 numElem bm D.K.length Dm from hown) s hsm n hyes hat
    rw [hs] at hn
    have HST := hide hst
    have HFR := hide hfr
    have HSB := hide hsb
    clear hst hfr hsb
    go_wp2
    go_quiet (fail)
    have hstd := (HST.out.all (ty_drewN W1 nq)).all (ty_drew _)
    have hlnk := link_st B b ov wv yv st en pv bm D p (q : Int) (n : Int) o0 (W1.drewN nq).drew hstd hp hl hB1
    have HF2 : Hid (FrB B pv pv w (W1.drewN nq).drew) := HFR.out.trans ((FrB.ty0 (ty_drewN W1 nq) ⟨rfl, rfl, rfl, Nat.le_refl _, fun _ _ => rfl⟩).trans (FrB.ty0 (ty_drew _) (Below.refl B _).drew))
    have HLEN := hide hstd.len
    clear hstd
    go_wp2
    go_region_with (go_at_call 203; refine hlnk.mono ?_; rintro e w3 ⟨rfl, wv3, hst3, hfr3⟩)
    all_goals go_wp2
    all_goals first | refine bodyPost_ret (results_none rfl _ _ _) rfl ?_ | refine bodyPost_end (results_none rfl _ _ _) rfl ?_
    all_goals exact ⟨rfl, n, D.K, D.svs, wv3, yv, hn, fun i t h => h, by omega, hst3, HF2.out.trans hfr3⟩
end Go.Proofs.YtfemboojdablhaaGreatDoor
namespace Go.Proofs.YtfemboojdablhaaGreatDoor
open Go.RowKit Go.Maps
def LinkD (D : BData) (p q : Nat) (n o0 : Int) : BData := { D with outs := D.outs.set p (D.ways.length : Int), ways := D.ways ++ [⟨q, n, o0⟩] }
inductive LayD (B : Nat) (W : World) (D : BData) (op : Int) (tx : List UInt8) (ks : List ExprD) (p q : Nat) : BData → Prop
  | free (o0 : Int) (hop : op = 1 ∨ (op = 3 ∧ ks = [])) (h : D.outs[p]? = some o0) : LayD B W D op tx ks p q (LinkD D p q (-1) o0)
  | none (hop : (op = 2 ∧ tx = []) ∨ (op ≠ 1 ∧ op ≠ 2 ∧ op ≠ 3 ∧ op ≠ 4 ∧ op ≠ 5)) : LayD B W D op tx ks p q D
  | byte (o0 : Int) (n : Nat) (K' : List (List UInt8)) (svs' : List Value) (hop : op = 2) (htx : tx ≠ []) (h : D.outs[p]? = some o0) (hn : K'[n]? = some tx) (hK : ∀ (i : Nat) (t : List UInt8), D.K[i]? = some t → K'[i]? = some t) (hKl : K'.length ≤ D.K.length + 1) : LayD B W D op tx ks p q { LinkD D p q n o0 with svs := svs', K := K' }
  | row (sp : List SpanD) (hop : op = 3) (hks : 0 < ks.length) (hsp : sp.map tri = rowT p D.outs.length q ks) (hat : SpAt B W sp) : LayD B W D op tx ks p q { D with outs := D.outs ++ List.replicate (ks.length - 1) (-1), opn := D.opn ++ sp }
  | choice (sp : List SpanD) (hop : op = 4) (hsp : sp.map tri = ks.map (fun k => (k, p, q))) (hat : SpAt B W sp) : LayD B W D op tx ks p q { D with opn := D.opn ++ sp }
  | again (o0 : Int) (sp : List SpanD) (hop : op = 5) (h : D.outs[p]? = some o0) (hsp : sp.map tri = ks.map (fun k => (k, D.outs.length, D.outs.length))) (hat : SpAt B W sp) : LayD B W D op tx ks p q { LinkD (LinkD { D with outs := D.outs ++ [-1] } p D.outs.length (-1) o0) D.outs.length q (-1) (-1) with opn := D.opn ++ sp }
def LayP (B b : Nat) (st en : Int) (pv : Value) (bm : Nat) (D : BData) (op : Int) (tx : List UInt8) (ks : List ExprD) (p q : Nat) (w : World) (e : Ending) (w' : World) : Prop :=
  e = .returned (.tuple #[]) ∧ ∃ D' ov' wv' yv' pv', LayD B w' D op tx ks p q D' ∧ BSt B w' b ov' wv' yv' st en pv' bm D' ∧ FrB B pv pv' w w'
set_option maxRecDepth 100000 in
set_option maxHeartbeats 4000000 in
theorem lay_st (B b : Nat) (ov wv yv : Value) (st en : Int) (pv : Value) (bm : Nat) (D : BData) (g o p q : Nat) (op : Int) (tx : List UInt8) (ks : List ExprD) (w : World) (h : BSt B w b ov wv yv st en pv bm D) (he : ExprAt B w g o (.mk op tx ks)) (hp : p < D.outs.length) (hl : D.ways.length + 2 ≤ 1000000000) (hl2 : D.K.length ≤ 1000000000) (hl3 : D.opn.length + ks.length ≤ 1000000000) (hl4 : D.outs.length + ks.length + 1 ≤ 1000000000) (hB : B ≤ w.heap.size) :
    Calls Tryz.prog 200 #[.pointer (some ⟨b, 0, none⟩), sval g o p q] w (LayP B b st en pv bm D op tx ks p q w) := by
  obtain ⟨o0, ho⟩ : ∃ o0, D.outs[p]? = some o0 := ⟨_, List.getElem?_eq_getElem hp⟩
  obtain ⟨hgB, k0, _, v, k2, hks⟩ := he.inv
  have hal : TyG [] w (w.alloc (.cells #[.pointer (some ⟨g, o, none⟩), .int .i64 (p : Int), .int .i64 (q : Int)] 284)) := ty_alloc _ _
  have hbl : Below B w (w.alloc (.cells #[.pointer (some ⟨g, o, none⟩), .int .i64 (p : Int), .int .i64 (q : Int)] 284)) := (Below.refl _ _).alloc hB _
  have hsb : SBox (w.alloc (.cells #[.pointer (some ⟨g, o, none⟩), .int .i64 (p : Int), .int .i64 (q : Int)] 284)) w.heap.size g o p q := World.alloc_heap_new w _
  have hst := h.all hal
  have hfr : FrB B pv pv w (w.alloc (.cells #[.pointer (some ⟨g, o, none⟩), .int .i64 (p : Int), .int .i64 (q : Int)] 284)) := FrB.ty0 hal hbl
  have k0' := (hbl.cell (p := ⟨g, o, none⟩) hgB).trans k0
  have k2' := (hbl.cell (p := ⟨g, o + 2, none⟩) hgB).trans k2
  have hpn : pv.ownBlock ≠ some w.heap.size := fun e => by have := h.pv_lt _ e; omega
  have hsz1 : w.heap.size + 1 ≤ (w.alloc (.cells #[.pointer (some ⟨g, o, none⟩), .int .i64 (p : Int), .int .i64 (q : Int)] 284)).heap.size := by simp
  have he1 := he.keep hbl
  have hks1 := hks.below hbl
  unfold sval
  go_enter Tryz.func200, Tryz.ntmps200
  obtain ⟨W1, hW1⟩ : ∃ W1, w.alloc (.cells #[.pointer (some ⟨g, o, none⟩), .int .i64 (p : Int), .int .i64 (q : Int)] 284) = W1 := ⟨_, rfl⟩
  rw [hW1] at hsb hst hfr k0' k2' hbl hsz1 he1 hks1
  have hB1 : B ≤ W1.heap.size := Nat.le_trans hB hbl.size
  obtain ⟨s0, s1, s2⟩ := hsb.cells
  have HST := hide hst
  have HFR := hide hfr
  have HSB := hide hsb
  have HE := hide he1
  have HKS := hide hks1
  have FD : Hid (∀ (x : Value) (X : World), FrB B x x X X.drew) := fun x X => FrB.ty0 (ty_drew _) (Below.refl B _).drew
  clear hst hfr hsb he1 hks1 h he hal k0 k2 hks
  by_cases h1 : op = 1
  · subst h1
    have hlk := link_st B b ov wv yv st en pv bm D p (q : Int) (-1) o0 W1.drew (HST.out.all (ty_drew _)) ho (by omega) hB1
    go_wp2
    go_region_with (go_at_call 203; refine hlk.mono ?_; rintro e w2 ⟨rfl, wv2, hst2, hfr2⟩)
    all_goals go_wp2
    all_goals first | refine bodyPost_ret (results_none rfl _ _ _) rfl ?_ | refine bodyPost_end (results_none rfl _ _ _) rfl ?_
    all_goals exact ⟨rfl, _, ov, wv2, yv, pv, .free o0 (.inl rfl) ho, hst2, HFR.out.trans ((FD.out _ _).trans hfr2)⟩
  have e1 : (op == 1) = false := by rw [beq_eq_false_iff_ne]; exact h1
  by_cases h2 : op = 2
  · subst h2
    by_cases htx : tx = []
    · subst htx
      have hby := layByte0_st B b ov wv yv st en pv bm D g o p q 2 ks W1 HST.out HE.out hB1
      unfold sval at hby
      go_wp2_with (go_at_call 232; refine hby.mono ?_; rintro e w2 ⟨rfl, hst2, hfr2⟩)
      go_end0
      exact ⟨rfl, _, ov, wv, yv, pv, .none (.inl ⟨rfl, rfl⟩), hst2, HFR.out.trans hfr2⟩
    · have hby := layByte_st B b ov wv yv st en pv bm D g o p q 2 tx ks o0 W1 HST.out HE.out htx ho (by omega) hl2 hB1
      unfold sval at hby
      go_wp2_with (go_at_call 232; refine hby.mono ?_; rintro e w2 ⟨rfl, n, K', svs', wv2, yv2, hn, hK, hKl, hst2, hfr2⟩)
      go_end0
      exact ⟨rfl, _, ov, wv2, yv2, pv, .byte o0 n K' svs' rfl htx ho hn hK hKl, hst2, HFR.out.trans hfr2⟩
  have e2 : (op == 2) = false := by rw [beq_eq_false_iff_ne]; exact h2
  by_cases h3 : op = 3
  · subst h3
    by_cases hk0 : ks = []
    · subst hk0
      have hby := layRow0_st B b ov wv yv st en pv bm D g o p q 3 tx o0 W1 HST.out HE.out ho (by omega) hB1
      unfold sval at hby
      go_wp2_with (go_at_call 233; refine hby.mono ?_; rintro e w2 ⟨rfl, wv2, hst2, hfr2⟩)
      go_end0
      exact ⟨rfl, _, ov, wv2, yv, pv, .free o0 (.inr ⟨rfl, rfl⟩) ho, hst2, HFR.out.trans hfr2⟩
    · have hkp : 0 < ks.length := by cases ks with | nil => exact absurd rfl hk0 | cons a l => simp
      have hby := layRow1_st B b ov wv yv st en pv bm D g o p q 3 tx ks W1 HST.out HE.out hkp hl3 (by omega) hB1
      unfold sval at hby
      go_wp2_with (go_at_call 233; refine hby.mono ?_; rintro e w2 ⟨rfl, ov2, pv2, sp, hsp, hat, hst2, hfr2⟩)
      go_end0
      exact ⟨rfl, _, ov2, wv, yv, pv2, .row sp rfl hkp hsp hat, hst2, HFR.out.trans hfr2⟩
  have e3 : (op == 3) = false := by rw [beq_eq_false_iff_ne]; exact h3
  by_cases h4 : op = 4
  · subst h4
    have hby := layChoice_st B b ov wv yv st en pv bm D v ks p q W1.drew (HST.out.all (ty_drew _)) (HKS.out.below (Below.refl B _).drew) hl3 hB1
    obtain ⟨va, vn, vc, rfl⟩ : ∃ a n c, v = .slice a n c := by
      rcases HKS.out with ⟨e, _⟩ | ⟨gk, ck, e, _⟩ <;> exact ⟨_, _, _, e⟩
    go_wp2
    go_region_with (go_at_call 234; refine hby.mono ?_; rintro e w2 ⟨rfl, pv2, sp, hsp, hat, hst2, hfr2⟩)
    all_goals go_wp2
    all_goals first | refine bodyPost_ret (results_none rfl _ _ _) rfl ?_ | refine bodyPost_end (results_none rfl _ _ _) rfl ?_
    all_goals exact ⟨rfl, _, ov, wv, yv, pv2, .choice sp rfl hsp hat, hst2, HFR.out.trans ((FD.out _ _).trans hfr2)⟩
  have e4 : (op == 4) = false := by rw [beq_eq_false_iff_ne]; exact h4
  by_cases h5 : op = 5
  · subst h5
    obtain ⟨va, vn, vc, rfl⟩ : ∃ a n c, v = .slice a n c := by
      rcases HKS.out with ⟨e, _⟩ | ⟨gk, ck, e, _⟩ <;> exact ⟨_, _, _, e⟩
    have hgr := grow_st B b ov wv yv st en pv bm D W1 HST.out (by omega) hB1
    go_wp2_with (go_at_call 198; refine hgr.mono ?_; rintro e w2 ⟨rfl, ov2, hst2, hfr2⟩; have hsb2 := HSB.out.fr hfr2 hpn; obtain ⟨a0, a1, a2⟩ := hsb2.cells)
    have hB2 : B ≤ w2.heap.size := Nat.le_trans hB1 hfr2.bel.size
    have ho2 : (D.outs ++ [-1])[p]? = some o0 := by rw [List.getElem?_append_left hp]; exact ho
    have hlk := link_st B b ov2 wv yv st en pv bm { D with outs := D.outs ++ [-1] } p (D.outs.length : Int) (-1) o0 w2.drew (hst2.all (ty_drew _)) ho2 (by show D.ways.length ≤ _; omega) hB2
    have HF2 : Hid (FrB B pv pv w w2.drew) := HFR.out.trans (hfr2.trans (FD.out _ _))
    have HS2 : Hid (SBox w2.drew w.heap.size g o p q) := hsb2
    clear hgr hst2 hsb2 s0 s1 s2
    refine (fun (KEY : ∀ (wv3 : Value) (w3 : World), (BSt B w3 b ov2 wv3 yv st en pv bm (LinkD { D with outs := D.outs ++ [-1] } p D.outs.length (-1) o0) ∧ FrB B pv pv w2.drew w3) → (?G3 : Value → World → Prop) wv3 w3) => ?main3) ?key3
    case main3 =>
      go_region_with (go_at_call 203; refine hlk.mono ?_; rintro e w3 ⟨rfl, wv3, hst3, hfr3⟩)
      all_goals exact KEY wv3 w3 ⟨hst3, hfr3⟩
    case key3 =>
      rintro wv3 w3 ⟨hst3, hfr3⟩
      have hsb3 := HS2.out.fr hfr3 hpn
      obtain ⟨b0, b1, b2⟩ := hsb3.cells
      have hB3 : B ≤ w3.heap.size := Nat.le_trans hB2 hfr3.bel.size
      have ho3 : (LinkD { D with outs := D.outs ++ [-1] } p D.outs.length (-1) o0).outs[D.outs.length]? = some (-1) := by
        show ((D.outs ++ [-1]).set p _)[D.outs.length]? = _
        rw [List.getElem?_set_ne (by omega)]
        simp
      have hlk3 := link_st B b ov2 wv3 yv st en pv bm (LinkD { D with outs := D.outs ++ [-1] } p D.outs.length (-1) o0) D.outs.length (q : Int) (-1) (-1) w3.drew (hst3.all (ty_drew _)) ho3 (by show (D.ways ++ [_]).length ≤ _; simp; omega) hB3
      have HF3 : Hid (FrB B pv pv w w3.drew) := HF2.out.trans (hfr3.trans (FD.out _ _))
      have HS3 : Hid (SBox w3.drew w.heap.size g o p q) := hsb3
      clear hlk hst3 hsb3 a0 a1 a2 HS2
      go_wp2
      refine (fun (KEY : ∀ (wv4 : Value) (w4 : World), (BSt B w4 b ov2 wv4 yv st en pv bm (LinkD (LinkD { D with outs := D.outs ++ [-1] } p D.outs.length (-1) o0) D.outs.length q (-1) (-1)) ∧ FrB B pv pv w3.drew w4) → (?G4 : Value → World → Prop) wv4 w4) => ?main4) ?key4
      case main4 =>
        go_region_with (go_at_call 203; refine hlk3.mono ?_; rintro e w4 ⟨rfl, wv4, hst4, hfr4⟩)
        all_goals exact KEY wv4 w4 ⟨hst4, hfr4⟩
      case key4 =>
        rintro wv4 w4 ⟨hst4, hfr4⟩
        have hsb4 := HS3.out.fr hfr4 hpn
        obtain ⟨d0, d1, d2⟩ := hsb4.cells
        have hf4 := HF3.out.trans hfr4
        have hb4 : Below B W1 w4 := ⟨hf4.bel.os.trans hbl.os.symm, hf4.bel.tape.trans hbl.tape.symm, hf4.bel.output.trans hbl.output.symm, Nat.le_trans (Nat.le_trans hfr2.bel.size hfr3.bel.size) hfr4.bel.size, fun k hk => (hf4.bel.block k hk).trans (hbl.block k hk).symm⟩
        have k24 := (hb4.cell (p := ⟨g, o + 2, none⟩) hgB).trans k2'
        have hch := layChoice_st B b ov2 wv4 yv st en pv bm _ (.slice va vn vc) ks D.outs.length D.outs.length w4 hst4 (HKS.out.below hb4) hl3 (Nat.le_trans hB hf4.bel.size)
        have HF4 := hide hf4
        clear hlk3 hst4 hsb4 b0 b1 b2 HS3 k2' hf4 hb4
        go_wp2_with (go_at_call 234; refine hch.mono ?_; rintro e w5 ⟨rfl, pv5, sp, hsp, hat, hst5, hfr5⟩)
        go_end0
        exact ⟨rfl, _, ov2, wv4, yv, pv5, .again o0 sp rfl ho hsp hat, hst5, HF4.out.trans hfr5⟩
  have e5 : (op == 5) = false := by rw [beq_eq_false_iff_ne]; exact h5
  go_wp2
  go_end0
  exact ⟨rfl, D, ov, wv, yv, pv, .none (.inr ⟨h1, h2, h3, h4, h5⟩), HST.out, HFR.out⟩
end Go.Proofs.YtfemboojdablhaaGreatDoor
namespace Go.Proofs.YtfemboojdablhaaGreatDoor
end Go.Proofs.YtfemboojdablhaaGreatDoor
