/- Walk: a node is gone to. -/
import Derived.Test.YtfemboojdablhaaGreatDoorWkI
namespace Go.Proofs.YtfemboojdablhaaGreatDoor.Tre
open Go.RowKit Go.Shelf
variable {L : List NodeD} {c : Cf} {gone nn : Nat} {out : List UInt8} {ab : List Bool} {pv bv tv : Value} {W W' : World}

theorem WSt.node (h : WSt L c gone out ab pv bv tv nn W) {k : Nat} {n : NodeD} (hn : L[k]? = some n) : ∃ kv, NodeAt W c.g k n kv ∧ IntRow c.B W kv n.kids := by
  rcases h.row with ⟨e, _⟩ | ⟨g, cap, e, hg, hc, hx⟩
  · cases e
  · obtain ⟨rfl, _⟩ : c.g = g ∧ c.cap = cap := by
      simp only [Value.slice.injEq, Option.some.injEq, Addr.mk.injEq] at e
      exact ⟨e.1.1, e.2.2⟩
    exact hx k n hn
theorem WSt.gB2 (h : WSt L c gone out ab pv bv tv nn W) : c.g < c.B := by
  rcases h.row with ⟨e, _⟩ | ⟨g, cap, e, hg, hc, hx⟩
  · cases e
  · obtain ⟨rfl, _⟩ : c.g = g ∧ c.cap = cap := by
      simp only [Value.slice.injEq, Option.some.injEq, Addr.mk.injEq] at e
      exact ⟨e.1.1, e.2.2⟩
    exact hg
theorem WSt.meac (h : WSt L c gone out ab pv bv tv nn W) {k : Nat} (hk : k < L.length) : W.cell? ⟨c.gm, k, none⟩ = some (.int .i64 (k : Int)) := by
  rw [Lib.cell_of_heap h.mea]
  simp [meaL, hk]

/-- What comes of a node: behind the lines of its own and of what is below. -/
theorem vis_len {f k : Nat} {p : ByteArray} {d : Int} {n : NodeD} (h : L[k]? = some n) : (visG L c.deep c.mx (f + 1) k p d).length = (belowG L c.deep c.mx f n p d).length + 1 := by
  rw [visG_some h]; cases c.deep <;> simp

theorem turnE_low {test : Nat → Bool} {J : (Nat → Prop) → (Nat → Prop) → World → Prop} {E D' E' : Nat → Prop} (hA : Asks L c test J) (h : WSt L c gone out ab pv bv tv nn W) (hj : J (DS c bv tv) E W) (hT : TurnE (DS c bv tv) E D' E' W W') : Below c.B W W' :=
  turn_low hT (fun k hk => hk.elim (fun q => (h.lts k q).1) (fun q => hA.low _ _ _ hj k q)) h.Bl
set_option maxRecDepth 100000 in
set_option maxHeartbeats 4000000 in
theorem goto_any {test : Nat → Bool} {J : (Nat → Prop) → (Nat → Prop) → World → Prop} (hA : Asks L c test J) (hL : L.length ≤ 201) (f : Nat) (hB : BelowC L c test J f) : GoC L c test J (f + 1) := by
  intro k p d n s t gone nn out ab pv bv tv E w h hat hf
  have hkl : k < L.length := (List.getElem?_eq_some_iff.1 hat.n).1
  have hkI : (k : Int) < (L.length : Int) := by omega
  have hlen := vis_len (c := c) (f := f) (p := p) (d := d) hat.n
  have hbud := h.bud
  rw [hlen] at hbud
  have hC := count_any w h.st (by omega) (by have := hA.ms; omega)
  have HP := hide (⟨h, hat, hf, hlen⟩ : _ ∧ _ ∧ _ ∧ _)
  clear h hlen hf
  go_enter Tryz.func46, Tryz.ntmps46
  go_wp2_with fail
  refine hC.mono ?_
  rintro e w1 ⟨rfl, h1, hT1⟩
  clear hC
  obtain ⟨kv, hna, hint⟩ := h1.node hat.n
  obtain ⟨n0, n1, n2, n3, n4, n5, n6⟩ := hna
  obtain ⟨ka, km, kc, rfl⟩ : ∃ ka km kc, kv = .slice ka km kc := by
    rcases hint with ⟨e, _⟩ | ⟨_, _, e, _⟩
    · exact ⟨_, _, _, e⟩
    · exact ⟨_, _, _, e⟩
  have c0 : w1.cell? ⟨c.b, 8, none⟩ = some (.slice (some ⟨c.gm, 0, none⟩) L.length L.length) := h1.blk.cell 8
  have c1 : w1.cell? ⟨c.gm, k, none⟩ = some (.int .i64 (k : Int)) := h1.meac hkl
  have c2 : w1.cell? ⟨c.b, 0, none⟩ = some (.slice (some ⟨c.g, 0, none⟩) L.length c.cap) := h1.blk.cell 0
  obtain ⟨W2, hW2⟩ : ∃ W2, w1.alloc (.cells #[.string p, .int .i64 d, .int .i64 (k : Int), .int .u8 n.kind, .string n.name, .int .i64 n.up, .int .i64 n.size, .int .i64 n.time, .string n.text, .slice ka km kc, .bool false] 122) = W2 := ⟨_, rfl⟩
  have hb2 : Below w1.heap.size w1 W2 := by rw [← hW2]; exact (Below.refl _ _).alloc (Nat.le_refl _) _
  have hv2 : VisB W2 w1.heap.size p d k n (.slice ka km kc) := by rw [← hW2]; exact World.alloc_heap_new w1 _
  have h2 : WSt L c (gone + 1) out ab pv bv tv nn W2 := h1.below hb2
  have d0 : W2.cell? ⟨c.b, 2, none⟩ = some (.bool c.deep) := h2.blk.cell 2
  have hj2 : J (DS c bv tv) E W2 := hA.stab _ _ _ _ _ (hA.stab _ _ _ _ _ HP.out.1.j hT1) (TurnC.of_below hb2)
  have hE2 : ¬ E w1.heap.size := fun q => by have := hA.lt _ _ _ HP.out.1.j _ q; have := hT1.size; omega
  have hi2 : IntRow c.B W2 (.slice ka km kc) n.kids := hint.below (hb2.mono h1.Bl)
  have HT2 : Hid (TurnE (DS c bv tv) E (DS c bv tv) E w W2) := withE (hT1.trans (TurnC.of_below hb2))
  have HW2 := hide hW2
  have hvl := hv2.lt
  obtain ⟨vb, hvb⟩ : ∃ vb, w1.heap.size = vb := ⟨_, rfl⟩
  have HVB := hide hvb
  rw [hvb] at hv2 hE2 hvl
  have HX := hide (⟨h2, hv2, hj2, hE2, hi2, hat⟩ : _ ∧ _ ∧ _ ∧ _ ∧ _ ∧ _)
  clear h1 hT1 hint hW2 hb2 hv2 h2 hj2 hE2 hi2 hvb hat
  have hp1 : p.size ≤ 12300 := by have := HX.out.2.2.2.2.2.pd; have := HX.out.2.2.2.2.2.dk; omega
  cases hdp : c.deep with
  | false =>
    rw [hdp] at d0
    go_wp2_with (rw [HW2.out])
    go_wp2_with fail
    rw [HVB.out]
    obtain ⟨h2, hv2, hj2, hE2, hi2, hat⟩ := HX.out
    obtain ⟨h, _, hf, hlen⟩ := HP.out
    have hol := h.ol
    have hnl := h.nl
    have hbs := h.bud
    refine (look_any hA.wnt hA.stab vb k p d n _ E W2 h2 hj2 hv2 hE2 hat.n (by omega) hat.p0).mono ?_
    rintro e w3 ⟨rfl, pv3, bv3, E3, h3, j3, T3⟩
    have hlb := lineB_le (decide (c.mn ≤ d) && test k) p
    have hv3 : VisB w3 vb p d k n (.slice ka km kc) := hv2.turn T3 (nDE (hv2.nD h2) hE2)
    have hE3 : ¬ E3 vb := nE_turn T3 hvl (hv2.nD h2) hE2
    have hi3 : IntRow c.B w3 (.slice ka km kc) n.kids := hi2.below (turnE_low hA h2 hj2 T3)
    have HBL := hide (hB vb k p d n (.slice ka km kc) s t (gone + 1) nn (out ++ lineB (decide (c.mn ≤ d) && test k) p) ab pv3 bv3 tv E3 w3 ⟨h3, j3, by rw [List.length_append]; omega, by omega, by omega, h.abf⟩ hv3 hE3 hat hi3 (by omega))
    have e1 : gone + (visG L false c.mx (f + 1) k p d).length = gone + 1 + (belowG L false c.mx f n p d).length := by have := hlen; rw [hdp] at this; omega
    have e2 : out ++ outW c.mn test (visG L false c.mx (f + 1) k p d) = out ++ lineB (decide (c.mn ≤ d) && test k) p ++ outW c.mn test (belowG L false c.mx f n p d) := by
      rw [visG_some hat.n]
      simp only [Bool.false_eq_true, if_false]
      rw [show (⟨p, d, k⟩ :: belowG L false c.mx f n p d) = [⟨p, d, k⟩] ++ belowG L false c.mx f n p d from rfl, outW_app, outW_one, List.append_assoc]
    have HE := hide (⟨e1, e2, T3⟩ : _ ∧ _ ∧ _)
    clear h2 hv2 hj2 hE2 hi2 hat h hf hlen hol hnl hbs h3 j3 T3 hlb hv3 hE3 hi3 e1 e2
    go_wp2_with fail
    refine HBL.out.mono ?_
    rintro e w4 ⟨rfl, pv4, bv4, tv4, nn4, E4, h4, j4, T4, o4, m4⟩
    have HY := hide (⟨h4, j4, T4, o4, m4⟩ : _ ∧ _ ∧ _ ∧ _ ∧ _)
    clear h4 j4 T4 o4 m4
    go_wp2
    go_end0
    obtain ⟨h4, j4, T4, o4, m4⟩ := HY.out
    obtain ⟨e1, e2, T3⟩ := HE.out
    rw [hdp] at h4 o4 m4
    refine ⟨rfl, pv4, bv4, tv4, nn4, E4, ?_, j4, (HT2.out.trans T3).trans T4, ?_, ?_⟩
    · rw [hdp, e1, e2]; exact h4
    · rw [hdp, e1, e2]; exact o4
    · rw [hdp, e1]; exact m4
  | true =>
    rw [hdp] at d0
    go_wp2_with (rw [HW2.out])
    go_wp2_with fail
    rw [HVB.out]
    obtain ⟨h2, hv2, hj2, hE2, hi2, hat⟩ := HX.out
    obtain ⟨h, _, hf, hlen⟩ := HP.out
    have hol := h.ol
    have hnl := h.nl
    have hbs := h.bud
    refine (hB vb k p d n (.slice ka km kc) (s + 20000) t (gone + 1) nn out ab pv bv tv E W2 ⟨h2, hj2, by omega, by omega, by omega, h.abf⟩ hv2 hE2 hat hi2 (by omega)).mono ?_
    rintro e w3 ⟨rfl, pv3, bv3, tv3, nn3, E3, h3, j3, T3, o3, m3⟩
    have hlb := lineB_le (decide (c.mn ≤ d) && test k) p
    have hv3 : VisB w3 vb p d k n (.slice ka km kc) := hv2.turn T3 (nDE (hv2.nD h2) hE2)
    have hE3 : ¬ E3 vb := nE_turn T3 hvl (hv2.nD h2) hE2
    have HBL := hide (look_any hA.wnt hA.stab vb k p d n _ E3 w3 h3 j3 hv3 hE3 hat.n (by omega) hat.p0)
    have e1 : gone + (visG L true c.mx (f + 1) k p d).length = gone + 1 + (belowG L true c.mx f n p d).length := by have := hlen; rw [hdp] at this; omega
    have e2 : out ++ outW c.mn test (visG L true c.mx (f + 1) k p d) = out ++ outW c.mn test (belowG L true c.mx f n p d) ++ lineB (decide (c.mn ≤ d) && test k) p := by
      rw [visG_some hat.n]
      simp only [if_true]
      rw [outW_app, outW_one, List.append_assoc]
    have o4 : (out ++ outW c.mn test (belowG L c.deep c.mx f n p d) ++ lineB (decide (c.mn ≤ d) && test k) p).length + s ≤ 20000 * (gone + 1 + (belowG L c.deep c.mx f n p d).length) := by rw [List.length_append]; omega
    have HE := hide (⟨e1, e2, T3, o4, m3⟩ : _ ∧ _ ∧ _ ∧ _ ∧ _)
    clear h2 hv2 hj2 hE2 hi2 hat h hf hlen hol hnl hbs h3 j3 T3 hlb hv3 hE3 e1 e2 o3 m3 o4
    go_wp2_with fail
    refine HBL.out.mono ?_
    rintro e w4 ⟨rfl, pv4, bv4, E4, h4, j4, T4⟩
    have HY := hide (⟨h4, j4, T4⟩ : _ ∧ _ ∧ _)
    clear h4 j4 T4
    go_wp2
    first | go_end0 | (refine bodyPost_ret (results_none rfl _ _ _) rfl ?_)
    obtain ⟨h4, j4, T4⟩ := HY.out
    obtain ⟨e1, e2, T3, o4, m4⟩ := HE.out
    rw [hdp] at h4 o4 m4
    refine ⟨rfl, pv4, bv4, tv3, nn3, E4, ?_, j4, (HT2.out.trans T3).trans T4, ?_, ?_⟩
    · rw [hdp, e1, e2]; exact h4
    · rw [hdp, e1, e2]; exact o4
    · rw [hdp, e1]; exact m4
end Go.Proofs.YtfemboojdablhaaGreatDoor.Tre
