/- The builder: lay. -/
import Derived.Test.YtjbdoeoimodhkaaGreatDoorALayC
namespace Go.Proofs.YtjbdoeoimodhkaaGreatDoor
open Go.RowKit Go.Maps

def LinkD (D : BData) (p q : Nat) (n o0 : Int) : BData := { D with outs := D.outs.set p (D.ways.length : Int), ways := D.ways ++ [⟨q, n, o0⟩] }
/-- What lay lays. -/
inductive LayD (B : Nat) (W : World) (D : BData) (op : Int) (tx : List UInt8) (ks : List ExprD) (p q : Nat) : BData → Prop
  | free (o0 : Int) (hop : op = 1 ∨ (op = 3 ∧ ks = [])) (h : D.outs[p]? = some o0) : LayD B W D op tx ks p q (LinkD D p q (-1) o0)
  | none (hop : (op = 2 ∧ tx = []) ∨ (op ≠ 1 ∧ op ≠ 2 ∧ op ≠ 3 ∧ op ≠ 4 ∧ op ≠ 5)) : LayD B W D op tx ks p q D
  | byte (o0 : Int) (n : Nat) (K' : List (List UInt8)) (svs' : List Value) (hop : op = 2) (htx : tx ≠ []) (h : D.outs[p]? = some o0) (hn : K'[n]? = some tx) (hK : ∀ (i : Nat) (t : List UInt8), D.K[i]? = some t → K'[i]? = some t) (hKl : K'.length ≤ D.K.length + 1) : LayD B W D op tx ks p q { LinkD D p q n o0 with svs := svs', K := K' }
  | row (sp : List SpanD) (hop : op = 3) (hks : 0 < ks.length) (hsp : sp.map tri = rowT p D.outs.length q ks) (hat : SpAt B W sp) : LayD B W D op tx ks p q { D with outs := D.outs ++ List.replicate (ks.length - 1) (-1), opn := D.opn ++ sp }
  | choice (sp : List SpanD) (hop : op = 4) (hsp : sp.map tri = ks.map (fun k => (k, p, q))) (hat : SpAt B W sp) : LayD B W D op tx ks p q { D with opn := D.opn ++ sp }
  | again (o0 : Int) (sp : List SpanD) (hop : op = 5) (h : D.outs[p]? = some o0) (hsp : sp.map tri = ks.map (fun k => (k, D.outs.length, D.outs.length))) (hat : SpAt B W sp) : LayD B W D op tx ks p q { LinkD (LinkD { D with outs := D.outs ++ [-1] } p D.outs.length (-1) o0) D.outs.length q (-1) (-1) with opn := D.opn ++ sp }
def LayP (B b : Nat) (st en : Int) (pv : Value) (bm : Nat) (D : BData) (op : Int) (tx : List UInt8) (ks : List ExprD) (p q : Nat) (w : World) (e : Ending) (w' : World) : Prop :=
  e = .returned (.tuple #[]) ∧ ∃ D' ov' wv' yv' pv', LayD B w' D op tx ks p q D' ∧ BSt B w' b ov' wv' yv' st en pv' bm D' ∧ FrB B pv pv' w w'
set_option maxRecDepth 100000 in
set_option maxHeartbeats 4000000 in
theorem lay_st (B b : Nat) (ov wv yv : Value) (st en : Int) (pv : Value) (bm : Nat) (D : BData) (g o p q : Nat) (op : Int) (tx : List UInt8) (ks : List ExprD) (w : World) (h : BSt B w b ov wv yv st en pv bm D) (he : ExprAt B w g o (.mk op tx ks)) (hp : p < D.outs.length) (hl : D.ways.length + 2 ≤ 1000000000) (hl2 : D.K.length ≤ 1000000000) (hl3 : D.opn.length + ks.length ≤ 1000000000) (hl4 : D.outs.length + ks.length + 1 ≤ 1000000000) (hB : B ≤ w.heap.size) :
    Calls Tryz.prog 112 #[.pointer (some ⟨b, 0, none⟩), sval g o p q] w (LayP B b st en pv bm D op tx ks p q w) := by
  obtain ⟨o0, ho⟩ : ∃ o0, D.outs[p]? = some o0 := ⟨_, List.getElem?_eq_getElem hp⟩
  obtain ⟨hgB, k0, _, v, k2, hks⟩ := he.inv
  have hal : TyG [] w (w.alloc (.cells #[.pointer (some ⟨g, o, none⟩), .int .i64 (p : Int), .int .i64 (q : Int)] 195)) := ty_alloc _ _
  have hbl : Below B w (w.alloc (.cells #[.pointer (some ⟨g, o, none⟩), .int .i64 (p : Int), .int .i64 (q : Int)] 195)) := (Below.refl _ _).alloc hB _
  have hsb : SBox (w.alloc (.cells #[.pointer (some ⟨g, o, none⟩), .int .i64 (p : Int), .int .i64 (q : Int)] 195)) w.heap.size g o p q := World.alloc_heap_new w _
  have hst := h.all hal
  have hfr : FrB B pv pv w (w.alloc (.cells #[.pointer (some ⟨g, o, none⟩), .int .i64 (p : Int), .int .i64 (q : Int)] 195)) := FrB.ty0 hal hbl
  have k0' := (hbl.cell (p := ⟨g, o, none⟩) hgB).trans k0
  have k2' := (hbl.cell (p := ⟨g, o + 2, none⟩) hgB).trans k2
  have hpn : pv.ownBlock ≠ some w.heap.size := fun e => by have := h.pv_lt _ e; omega
  have hsz1 : w.heap.size + 1 ≤ (w.alloc (.cells #[.pointer (some ⟨g, o, none⟩), .int .i64 (p : Int), .int .i64 (q : Int)] 195)).heap.size := by simp
  have he1 := he.keep hbl
  have hks1 := hks.below hbl
  unfold sval
  go_enter Tryz.func112, Tryz.ntmps112
  obtain ⟨W1, hW1⟩ : ∃ W1, w.alloc (.cells #[.pointer (some ⟨g, o, none⟩), .int .i64 (p : Int), .int .i64 (q : Int)] 195) = W1 := ⟨_, rfl⟩
  rw [hW1] at hsb hst hfr k0' k2' hbl hsz1 he1 hks1
  have hB1 : B ≤ W1.heap.size := Nat.le_trans hB hbl.size
  obtain ⟨s0, s1, s2⟩ := hsb.cells
  have HST := hide hst
  have HFR := hide hfr
  have HSB := hide hsb
  have HE := hide he1
  have HKS := hide hks1
  have FD : Hid (∀ (x : Value) (X : World), FrB B x x X X.drew) := fun x X => FrB.ty0 (ty_drew _) (Below.refl B _).drew
  clear hst hfr hsb he1 hks1 h he hal k0 k2 hks
  by_cases h1 : op = 1
  · subst h1
    have hlk := link_st B b ov wv yv st en pv bm D p (q : Int) (-1) o0 W1.drew (HST.out.all (ty_drew _)) ho (by omega) hB1
    go_wp2
    go_region_with (go_at_call 125; refine hlk.mono ?_; rintro e w2 ⟨rfl, wv2, hst2, hfr2⟩)
    all_goals go_wp2
    all_goals first | refine bodyPost_ret (results_none rfl _ _ _) rfl ?_ | refine bodyPost_end (results_none rfl _ _ _) rfl ?_
    all_goals exact ⟨rfl, _, ov, wv2, yv, pv, .free o0 (.inl rfl) ho, hst2, HFR.out.trans ((FD.out _ _).trans hfr2)⟩
  have e1 : (op == 1) = false := by rw [beq_eq_false_iff_ne]; exact h1
  by_cases h2 : op = 2
  · subst h2
    by_cases htx : tx = []
    · subst htx
      have hby := layByte0_st B b ov wv yv st en pv bm D g o p q 2 ks W1 HST.out HE.out hB1
      unfold sval at hby
      go_wp2_with (go_at_call 126; refine hby.mono ?_; rintro e w2 ⟨rfl, hst2, hfr2⟩)
      go_end0
      exact ⟨rfl, _, ov, wv, yv, pv, .none (.inl ⟨rfl, rfl⟩), hst2, HFR.out.trans hfr2⟩
    · have hby := layByte_st B b ov wv yv st en pv bm D g o p q 2 tx ks o0 W1 HST.out HE.out htx ho (by omega) hl2 hB1
      unfold sval at hby
      go_wp2_with (go_at_call 126; refine hby.mono ?_; rintro e w2 ⟨rfl, n, K', svs', wv2, yv2, hn, hK, hKl, hst2, hfr2⟩)
      go_end0
      exact ⟨rfl, _, ov, wv2, yv2, pv, .byte o0 n K' svs' rfl htx ho hn hK hKl, hst2, HFR.out.trans hfr2⟩
  have e2 : (op == 2) = false := by rw [beq_eq_false_iff_ne]; exact h2
  by_cases h3 : op = 3
  · subst h3
    by_cases hk0 : ks = []
    · subst hk0
      have hby := layRow0_st B b ov wv yv st en pv bm D g o p q 3 tx o0 W1 HST.out HE.out ho (by omega) hB1
      unfold sval at hby
      go_wp2_with (go_at_call 127; refine hby.mono ?_; rintro e w2 ⟨rfl, wv2, hst2, hfr2⟩)
      go_end0
      exact ⟨rfl, _, ov, wv2, yv, pv, .free o0 (.inr ⟨rfl, rfl⟩) ho, hst2, HFR.out.trans hfr2⟩
    · have hkp : 0 < ks.length := by cases ks with | nil => exact absurd rfl hk0 | cons a l => simp
      have hby := layRow1_st B b ov wv yv st en pv bm D g o p q 3 tx ks W1 HST.out HE.out hkp hl3 (by omega) hB1
      unfold sval at hby
      go_wp2_with (go_at_call 127; refine hby.mono ?_; rintro e w2 ⟨rfl, ov2, pv2, sp, hsp, hat, hst2, hfr2⟩)
      go_end0
      exact ⟨rfl, _, ov2, wv, yv, pv2, .row sp rfl hkp hsp hat, hst2, HFR.out.trans hfr2⟩
  have e3 : (op == 3) = false := by rw [beq_eq_false_iff_ne]; exact h3
  by_cases h4 : op = 4
  · subst h4
    have hby := layChoice_st B b ov wv yv st en pv bm D v ks p q W1.drew (HST.out.all (ty_drew _)) (HKS.out.below (Below.refl B _).drew) hl3 hB1
    obtain ⟨va, vn, vc, rfl⟩ : ∃ a n c, v = .slice a n c := by
      rcases HKS.out with ⟨e, _⟩ | ⟨gk, ck, e, _⟩ <;> exact ⟨_, _, _, e⟩
    go_wp2
    go_region_with (go_at_call 128; refine hby.mono ?_; rintro e w2 ⟨rfl, pv2, sp, hsp, hat, hst2, hfr2⟩)
    all_goals go_wp2
    all_goals first | refine bodyPost_ret (results_none rfl _ _ _) rfl ?_ | refine bodyPost_end (results_none rfl _ _ _) rfl ?_
    all_goals exact ⟨rfl, _, ov, wv, yv, pv2, .choice sp rfl hsp hat, hst2, HFR.out.trans ((FD.out _ _).trans hfr2)⟩
  have e4 : (op == 4) = false := by rw [beq_eq_false_iff_ne]; exact h4
  by_cases h5 : op = 5
  · subst h5
    obtain ⟨va, vn, vc, rfl⟩ : ∃ a n c, v = .slice a n c := by
      rcases HKS.out with ⟨e, _⟩ | ⟨gk, ck, e, _⟩ <;> exact ⟨_, _, _, e⟩
    have hgr := grow_st B b ov wv yv st en pv bm D W1 HST.out (by omega) hB1
    go_wp2_with (go_at_call 110; refine hgr.mono ?_; rintro e w2 ⟨rfl, ov2, hst2, hfr2⟩; have hsb2 := HSB.out.fr hfr2 hpn; obtain ⟨a0, a1, a2⟩ := hsb2.cells)
    have hB2 : B ≤ w2.heap.size := Nat.le_trans hB1 hfr2.bel.size
    have ho2 : (D.outs ++ [-1])[p]? = some o0 := by rw [List.getElem?_append_left hp]; exact ho
    have hlk := link_st B b ov2 wv yv st en pv bm { D with outs := D.outs ++ [-1] } p (D.outs.length : Int) (-1) o0 w2.drew (hst2.all (ty_drew _)) ho2 (by show D.ways.length ≤ _; omega) hB2
    have HF2 : Hid (FrB B pv pv w w2.drew) := HFR.out.trans (hfr2.trans (FD.out _ _))
    have HS2 : Hid (SBox w2.drew w.heap.size g o p q) := hsb2
    clear hgr hst2 hsb2 s0 s1 s2
    refine (fun (KEY : ∀ (wv3 : Value) (w3 : World), (BSt B w3 b ov2 wv3 yv st en pv bm (LinkD { D with outs := D.outs ++ [-1] } p D.outs.length (-1) o0) ∧ FrB B pv pv w2.drew w3) → (?G3 : Value → World → Prop) wv3 w3) => ?main3) ?key3
    case main3 =>
      go_region_with (go_at_call 125; refine hlk.mono ?_; rintro e w3 ⟨rfl, wv3, hst3, hfr3⟩)
      all_goals exact KEY wv3 w3 ⟨hst3, hfr3⟩
    case key3 =>
      rintro wv3 w3 ⟨hst3, hfr3⟩
      have hsb3 := HS2.out.fr hfr3 hpn
      obtain ⟨b0, b1, b2⟩ := hsb3.cells
      have hB3 : B ≤ w3.heap.size := Nat.le_trans hB2 hfr3.bel.size
      have ho3 : (LinkD { D with outs := D.outs ++ [-1] } p D.outs.length (-1) o0).outs[D.outs.length]? = some (-1) := by
        show ((D.outs ++ [-1]).set p _)[D.outs.length]? = _
        rw [List.getElem?_set_ne (by omega)]
        simp
      have hlk3 := link_st B b ov2 wv3 yv st en pv bm (LinkD { D with outs := D.outs ++ [-1] } p D.outs.length (-1) o0) D.outs.length (q : Int) (-1) (-1) w3.drew (hst3.all (ty_drew _)) ho3 (by show (D.ways ++ [_]).length ≤ _; simp; omega) hB3
      have HF3 : Hid (FrB B pv pv w w3.drew) := HF2.out.trans (hfr3.trans (FD.out _ _))
      have HS3 : Hid (SBox w3.drew w.heap.size g o p q) := hsb3
      clear hlk hst3 hsb3 a0 a1 a2 HS2
      go_wp2
      refine (fun (KEY : ∀ (wv4 : Value) (w4 : World), (BSt B w4 b ov2 wv4 yv st en pv bm (LinkD (LinkD { D with outs := D.outs ++ [-1] } p D.outs.length (-1) o0) D.outs.length q (-1) (-1)) ∧ FrB B pv pv w3.drew w4) → (?G4 : Value → World → Prop) wv4 w4) => ?main4) ?key4
      case main4 =>
        go_region_with (go_at_call 125; refine hlk3.mono ?_; rintro e w4 ⟨rfl, wv4, hst4, hfr4⟩)
        all_goals exact KEY wv4 w4 ⟨hst4, hfr4⟩
      case key4 =>
        rintro wv4 w4 ⟨hst4, hfr4⟩
        have hsb4 := HS3.out.fr hfr4 hpn
        obtain ⟨d0, d1, d2⟩ := hsb4.cells
        have hf4 := HF3.out.trans hfr4
        have hb4 : Below B W1 w4 := ⟨hf4.bel.os.trans hbl.os.symm, hf4.bel.tape.trans hbl.tape.symm, hf4.bel.output.trans hbl.output.symm, Nat.le_trans (Nat.le_trans hfr2.bel.size hfr3.bel.size) hfr4.bel.size, fun k hk => (hf4.bel.block k hk).trans (hbl.block k hk).symm⟩
        have k24 := (hb4.cell (p := ⟨g, o + 2, none⟩) hgB).trans k2'
        have hch := layChoice_st B b ov2 wv4 yv st en pv bm _ (.slice va vn vc) ks D.outs.length D.outs.length w4 hst4 (HKS.out.below hb4) hl3 (Nat.le_trans hB hf4.bel.size)
        have HF4 := hide hf4
        clear hlk3 hst4 hsb4 b0 b1 b2 HS3 k2' hf4 hb4
        go_wp2_with (go_at_call 128; refine hch.mono ?_; rintro e w5 ⟨rfl, pv5, sp, hsp, hat, hst5, hfr5⟩)
        go_end0
        exact ⟨rfl, _, ov2, wv4, yv, pv5, .again o0 sp rfl ho hsp hat, hst5, HF4.out.trans hfr5⟩
  have e5 : (op == 5) = false := by rw [beq_eq_false_iff_ne]; exact h5
  go_wp2
  go_end0
  exact ⟨rfl, D, ov, wv, yv, pv, .none (.inr ⟨h1, h2, h3, h4, h5⟩), HST.out, HFR.out⟩
end Go.Proofs.YtjbdoeoimodhkaaGreatDoor
