/- The builder: layRow. -/
import Derived.Test.YtjbdoeoimodhkaaGreatDoorALayA
namespace Go.Proofs.YtjbdoeoimodhkaaGreatDoor
open Go.RowKit Go.Maps

theorem BSt.all {B : Nat} {W W' : World} {b : Nat} {ov wv yv : Value} {st en : Int} {pv : Value} {bm : Nat} {D : BData} (h : BSt B W b ov wv yv st en pv bm D) (hg : TyG [] W W') : BSt B W' b ov wv yv st en pv bm D := by
  refine ⟨hg.same b _ h.box (fun _ _ _ _ h => by cases h), h.bB, hg.row h.out (by simp), hg.row h.ways (by simp), hg.row h.byt (by simp), h.len, fun i v hv => ?_, hg.row h.opn (by simp), h.mB, hg.kn h.kn⟩
  obtain ⟨t, ht, hs⟩ := h.sets i v hv
  exact ⟨t, ht, hg.set hs (by simp)⟩
theorem ty_alloc (w : World) (o : Obj) : TyG [] w (w.alloc o) := ⟨by simp, fun k o' hk _ => (Below.heap_alloc w o k (Array.getElem?_eq_some_iff.1 hk).1).trans hk⟩
theorem ty_drew (w : World) : TyG [] w w.drew := ⟨Nat.le_refl _, fun _ _ h _ => h⟩
theorem BSt.pv_lt {B : Nat} {W : World} {b : Nat} {ov wv yv : Value} {st en : Int} {pv : Value} {bm : Nat} {D : BData} (h : BSt B W b ov wv yv st en pv bm D) (g : Nat) (hg : pv.ownBlock = some g) : g < W.heap.size := by
  obtain ⟨_, cur, hc⟩ := own_cells h.opn hg
  exact (Array.getElem?_eq_some_iff.1 hc).1
/-- The span's box. -/
def SBox (W : World) (z g o p q : Nat) : Prop := W.heap[z]? = some (.cells #[.pointer (some ⟨g, o, none⟩), .int .i64 (p : Int), .int .i64 (q : Int)] 195 (0, 0))
theorem SBox.cells {W : World} {z g o p q : Nat} (h : SBox W z g o p q) : W.cell? ⟨z, 0, none⟩ = some (.pointer (some ⟨g, o, none⟩)) ∧ W.cell? ⟨z, 1, none⟩ = some (.int .i64 (p : Int)) ∧ W.cell? ⟨z, 2, none⟩ = some (.int .i64 (q : Int)) := by
  unfold SBox at h
  simp [World.cell?, h]
theorem SBox.fr {B : Nat} {pv pv' : Value} {W W' : World} {z g o p q : Nat} (h : SBox W z g o p q) (hf : FrB B pv pv' W W') (hne : pv.ownBlock ≠ some z) : SBox W' z g o p q := hf.box z _ 195 h rfl hne
theorem FrB.ne {B : Nat} {pv pv' : Value} {W W' : World} {z : Nat} (hf : FrB B pv pv' W W') (hz : z < W.heap.size) (hne : pv.ownBlock ≠ some z) : pv'.ownBlock ≠ some z := fun e => by
  rcases hf.pvn with e' | e'
  · exact hne (e' ▸ e)
  · have := e' z e; omega
theorem FrB.ty0 {B : Nat} {pv : Value} {W W' : World} (h : TyG [] W W') (hb : Below B W W') : FrB B pv pv W W' := FrB.of_ty h hb (by simp)
def sval (g o p q : Nat) : Value := .agg #[.pointer (some ⟨g, o, none⟩), .int .i64 (p : Int), .int .i64 (q : Int)]
set_option maxRecDepth 100000 in
set_option maxHeartbeats 2000000 in
theorem layRow0_st (B b : Nat) (ov wv yv : Value) (st en : Int) (pv : Value) (bm : Nat) (D : BData) (g o p q : Nat) (op : Int) (tx : List UInt8) (o0 : Int) (w : World) (h : BSt B w b ov wv yv st en pv bm D) (he : ExprAt B w g o (.mk op tx [])) (hp : D.outs[p]? = some o0) (hl : D.ways.length ≤ 1000000000) (hB : B ≤ w.heap.size) :
    Calls Tryz.prog 127 #[.pointer (some ⟨b, 0, none⟩), sval g o p q] w fun e w' => e = .returned (.tuple #[]) ∧ ∃ wv', BSt B w' b ov wv' yv st en pv bm { D with outs := D.outs.set p (D.ways.length : Int), ways := D.ways ++ [⟨q, -1, o0⟩] } ∧ FrB B pv pv w w' := by
  obtain ⟨hgB, k0, _, v, k2, hks⟩ := he.inv
  obtain ⟨ga, na, ca, rfl, hn0⟩ : ∃ (a : Option Addr) (n c : Nat), v = .slice a n c ∧ n = 0 := by
    rcases hks with ⟨e, _⟩ | ⟨gk, ck, e, _⟩
    · exact ⟨_, _, _, e, rfl⟩
    · exact ⟨_, _, _, e, rfl⟩
  subst hn0
  have hal : TyG [] w (w.alloc (.cells #[.pointer (some ⟨g, o, none⟩), .int .i64 (p : Int), .int .i64 (q : Int)] 195)) := ty_alloc _ _
  have hbl : Below B w (w.alloc (.cells #[.pointer (some ⟨g, o, none⟩), .int .i64 (p : Int), .int .i64 (q : Int)] 195)) := (Below.refl _ _).alloc hB _
  have hsb : SBox (w.alloc (.cells #[.pointer (some ⟨g, o, none⟩), .int .i64 (p : Int), .int .i64 (q : Int)] 195)) w.heap.size g o p q := World.alloc_heap_new w _
  obtain ⟨s0, s1, s2⟩ := hsb.cells
  have k2' := (hbl.cell (p := ⟨g, o + 2, none⟩) hgB).trans k2
  have hlk := link_st B b ov wv yv st en pv bm D p (q : Int) (-1) o0 (w.alloc (.cells #[.pointer (some ⟨g, o, none⟩), .int .i64 (p : Int), .int .i64 (q : Int)] 195)).drew ((h.all hal).all (ty_drew _)) hp hl (Nat.le_trans hB hbl.size)
  have HFR : Hid (FrB B pv pv w (w.alloc (.cells #[.pointer (some ⟨g, o, none⟩), .int .i64 (p : Int), .int .i64 (q : Int)] 195)).drew) := (FrB.ty0 hal hbl).trans (FrB.ty0 (ty_drew _) (Below.refl B _).drew)
  unfold sval
  go_enter Tryz.func127, Tryz.ntmps127
  go_wp2
  go_region_with (go_at_call 125; refine hlk.mono ?_; rintro e w2 ⟨rfl, wv2, hst2, hfr2⟩)
  all_goals go_wp2
  all_goals first | refine bodyPost_ret (results_none rfl _ _ _) rfl ?_ | refine bodyPost_end (results_none rfl _ _ _) rfl ?_
  all_goals exact ⟨rfl, wv2, hst2, HFR.out.trans hfr2⟩

theorem rowT_step {at_ N q : Nat} {ks : List ExprD} {i : Nat} (hi : i + 1 < ks.length) : rowT at_ N q (ks.drop i) = (ks[i], at_, N) :: rowT N (N + 1) q (ks.drop (i + 1)) := by
  rw [List.drop_eq_getElem_cons (show i < ks.length by omega), List.drop_eq_getElem_cons hi]
  rfl
theorem rowT_last {at_ N q : Nat} {ks : List ExprD} {i : Nat} (hi : i + 1 = ks.length) : rowT at_ N q (ks.drop i) = [(ks[i], at_, q)] := by
  rw [List.drop_eq_getElem_cons (show i < ks.length by omega), List.drop_eq_nil_of_le (by omega)]
  rfl
set_option maxRecDepth 100000 in
set_option maxHeartbeats 4000000 in
theorem layRow1_st (B b : Nat) (ov wv yv : Value) (st en : Int) (pv : Value) (bm : Nat) (D : BData) (g o p q : Nat) (op : Int) (tx : List UInt8) (ks : List ExprD) (w : World) (h : BSt B w b ov wv yv st en pv bm D) (he : ExprAt B w g o (.mk op tx ks)) (hpos : 0 < ks.length) (hl : D.opn.length + ks.length ≤ 1000000000) (hl2 : D.outs.length + ks.length ≤ 1000000000) (hB : B ≤ w.heap.size) :
    Calls Tryz.prog 127 #[.pointer (some ⟨b, 0, none⟩), sval g o p q] w fun e w' => e = .returned (.tuple #[]) ∧ ∃ ov' pv' sp, sp.map tri = rowT p D.outs.length q ks ∧ SpAt B w' sp ∧ BSt B w' b ov' wv yv st en pv' bm { D with outs := D.outs ++ List.replicate (ks.length - 1) (-1), opn := D.opn ++ sp } ∧ FrB B pv pv' w w' := by
  obtain ⟨hgB, k0, _, v, k2, hks⟩ := he.inv
  rcases hks with ⟨_, e⟩ | ⟨gk, ck, rfl, hck, hk⟩
  · rw [e] at hpos; simp at hpos
  have hal : TyG [] w (w.alloc (.cells #[.pointer (some ⟨g, o, none⟩), .int .i64 (p : Int), .int .i64 (q : Int)] 195)) := ty_alloc _ _
  have hbl : Below B w (w.alloc (.cells #[.pointer (some ⟨g, o, none⟩), .int .i64 (p : Int), .int .i64 (q : Int)] 195)) := (Below.refl _ _).alloc hB _
  have hsb : SBox (w.alloc (.cells #[.pointer (some ⟨g, o, none⟩), .int .i64 (p : Int), .int .i64 (q : Int)] 195)) w.heap.size g o p q := World.alloc_heap_new w _
  obtain ⟨s0, s1, s2⟩ := hsb.cells
  have k2' := (hbl.cell (p := ⟨g, o + 2, none⟩) hgB).trans k2
  have hst1 := h.all hal
  have hfr1 : FrB B pv pv w (w.alloc (.cells #[.pointer (some ⟨g, o, none⟩), .int .i64 (p : Int), .int .i64 (q : Int)] 195)) := FrB.ty0 hal hbl
  have hne1 : pv.ownBlock ≠ some w.heap.size := fun e => by have := h.pv_lt _ e; omega
  have hnI : ¬ ((ks.length : Int) = 0) := by omega
  have hn0 : ((ks.length : Int) == 0) = false := by rw [beq_eq_false_iff_ne]; omega
  have hsz1 : (w.alloc (.cells #[.pointer (some ⟨g, o, none⟩), .int .i64 (p : Int), .int .i64 (q : Int)] 195)).heap.size = w.heap.size + 1 := by simp
  have hpre : ∃ m, ks.length = m + 1 := ⟨ks.length - 1, by omega⟩
  obtain ⟨m, hm⟩ := hpre
  have hmI : ((ks.length : Int) - 1) = (m : Int) := by omega
  have hn1 : ((m : Int) + 1 == 0) = false := by rw [beq_eq_false_iff_ne]; omega
  obtain ⟨W1, hW1⟩ : ∃ W1, w.alloc (.cells #[.pointer (some ⟨g, o, none⟩), .int .i64 (p : Int), .int .i64 (q : Int)] 195) = W1 := ⟨_, rfl⟩
  unfold sval
  go_enter Tryz.func127, Tryz.ntmps127
  rw [hW1] at hsb s0 s1 s2 k2' hst1 hfr1 hsz1 hbl
  have HST := hide hst1
  have HFR := hide hfr1
  have HSB := hide hsb
  clear hst1 hfr1 hsb hal h he
  go_wp2
  go_loopw [5, 33] (fun av iv wr => ∃ (i a : Nat) (ov' pv' : Value) (sp : List SpanD), iv = .int .i64 (i : Int) ∧ av = .int .i64 (a : Int) ∧ i ≤ m ∧ sp.length = i ∧ sp.map tri ++ rowT a (D.outs.length + i) q (ks.drop i) = rowT p D.outs.length q ks ∧ SpAt B wr sp ∧ BSt B wr b ov' wv yv st en pv' bm { D with outs := D.outs ++ List.replicate i (-1), opn := D.opn ++ sp } ∧ FrB B pv pv' w wr ∧ SBox wr w.heap.size g o p q ∧ pv'.ownBlock ≠ some w.heap.size) (fun _ iv _ => m - (intOf iv).toNat)
  case atStart => exact ⟨0, p, ov, pv, [], rfl, rfl, Nat.zero_le _, rfl, rfl, fun s hs => (by cases hs), by rw [List.append_nil, List.replicate_zero, List.append_nil]; exact HST.out, HFR.out, HSB.out, hne1⟩
  case round =>
    obtain ⟨i, a, ov', pv', sp, rfl, rfl, hi, hsl, hrow, hat, hst, hfr, hsbx, hpn⟩ := hrel
    have hBw : B ≤ wr.heap.size := Nat.le_trans hB hfr.bel.size
    have hke := (hk i (ks[i]'(by omega)) (List.getElem?_eq_getElem (by omega))).keep hfr.bel
    by_cases hlt : i < m
    · have hiI : (i : Int) < (m : Int) := by omega
      have hstep := rowT_step (at_ := a) (N := D.outs.length + i) (q := q) (ks := ks) (i := i) (by omega)
      have hgr := grow_st B b ov' wv yv st en pv' bm { D with outs := D.outs ++ List.replicate i (-1), opn := D.opn ++ sp } wr hst (by simp; omega) hBw
      have HX := hide hsbx
      clear hsbx
      go_wp2_with first
        | (go_at_call 110; refine hgr.mono ?_; clear hgr; rintro e w2 ⟨rfl, ov2, hst2, hfr2⟩; have hlv := leave_st B b ov2 wv yv st en pv' bm _ ⟨gk, i * 3, ks[i]'(by omega), a, D.outs.length + i⟩ w2 hst2 (by simp; omega) (Nat.le_trans hBw hfr2.bel.size); have hlen2 : (({ D with outs := D.outs ++ List.replicate i (-1), opn := D.opn ++ sp } : BData).outs.length : Int) = ((D.outs.length + i : Nat) : Int) := (by simp); rw [hlen2]; clear hlen2)
        | (go_at_call 111; refine hlv.mono ?_; rintro e w3 ⟨rfl, pv3, hst3, hfr3⟩)
      have hz1 : w.heap.size < wr.heap.size := by have := hfr.bel.size; have := (Array.getElem?_eq_some_iff.1 HX.out).1; omega
      go_roundw
      case rel =>
        refine ⟨i + 1, D.outs.length + i, ov2, pv3, sp ++ [⟨gk, i * 3, ks[i]'(by omega), a, D.outs.length + i⟩], by simp, by simp, by omega, by simp [hsl], ?_, ?_, ?_, hfr.trans (hfr2.trans hfr3), (HX.out.fr hfr2 hpn).fr hfr3 (hfr2.ne hz1 hpn), hfr3.ne (Nat.lt_of_lt_of_le hz1 hfr2.bel.size) (hfr2.ne hz1 hpn)⟩
        · rw [List.map_append, List.append_assoc, ← hrow, hstep]
          rfl
        · intro s hs
          rcases List.mem_append.1 hs with hs | hs
          · exact (hat s hs).keep (hfr2.bel.trans hfr3.bel)
          · rw [List.mem_singleton] at hs
            subst hs
            exact hke.keep (hfr2.bel.trans hfr3.bel)
        · have e1 : D.outs ++ List.replicate (i + 1) (-1) = D.outs ++ List.replicate i (-1) ++ [-1] := by rw [List.append_assoc, ← List.replicate_succ']
          rw [e1, ← List.append_assoc]
          exact hst3
      case measure => simp [intOf]; omega
    · have him : i = m := by omega
      subst him
      have hiI : ¬ ((i : Int) < (i : Int)) := by omega
      have hlast := rowT_last (at_ := a) (N := D.outs.length + i) (q := q) (ks := ks) (i := i) (by omega)
      obtain ⟨t0, t1, t2⟩ := hsbx.cells
      have hlv := leave_st B b ov' wv yv st en pv' bm _ ⟨gk, i * 3, ks[i]'(by omega), a, q⟩ wr.drew (hst.all (ty_drew _)) (by simp; omega) hBw
      have hsb2 : ((i + 1 : Nat) : Int) - 1 = (i : Int) := by omega
      have hib : (i : Int) < (i : Int) + 1 := by omega
      have hiB : i ≤ 1000000000 := by omega
      have hwi : IntKind.i64.wrap (i : Int) = (i : Int) := wraps_i64_62 _ (by omega) (by omega)
      go_wp2
      go_region_with (go_at_call 111; refine hlv.mono ?_; rintro e w3 ⟨rfl, pv3, hst3, hfr3⟩)
      all_goals go_wp2
      all_goals first | refine bodyPost_ret (results_none rfl _ _ _) rfl ?_ | refine bodyPost_end (results_none rfl _ _ _) rfl ?_
      all_goals
        have hfd : FrB B pv' pv' wr wr.drew := FrB.ty0 (ty_drew _) (Below.refl B _).drew
        refine ⟨rfl, ov', pv3, sp ++ [⟨gk, i * 3, ks[i]'(by omega), a, q⟩], ?_, ?_, ?_, hfr.trans (hfd.trans hfr3)⟩
        · rw [List.map_append, ← hrow, hlast]
          rfl
        · intro s hs
          rcases List.mem_append.1 hs with hs | hs
          · exact (hat s hs).keep (hfd.bel.trans hfr3.bel)
          · rw [List.mem_singleton] at hs
            subst hs
            exact hke.keep (hfd.bel.trans hfr3.bel)
        · have e1 : ks.length - 1 = i := by omega
          rw [e1, ← List.append_assoc]
          exact hst3
end Go.Proofs.YtjbdoeoimodhkaaGreatDoor
