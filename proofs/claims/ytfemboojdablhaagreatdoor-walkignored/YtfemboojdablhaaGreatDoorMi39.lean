/- Merged: WkI, WkJ, WkK, WkL. -/
import Derived.Test.YtfemboojdablhaaGreatDoorMi38
import Derived.BigQuiet
import Derived.Deep.QuietTactic
import Derived.StillTailTactics
import Derived.Deep.LoopGhost
namespace Go.Proofs.YtfemboojdablhaaGreatDoor.Tre
open Go.RowKit Go.Shelf
variable {L : List NodeD} {c : Cf} {gone nn : Nat} {out : List UInt8} {ab : List Bool} {pv bv tv : Value} {W W' : World}
structure AtN (L : List NodeD) (k : Nat) (p : ByteArray) (d : Int) (n : NodeD) : Prop where
  n : L[k]? = some n
  d0 : 0 ≤ d
  dk : d ≤ k
  p0 : 0 < p.size
  pd : (p.size : Int) ≤ 61 * d + 1
def KidsC (L : List NodeD) (c : Cf) (test : Nat → Bool) (J : (Nat → Prop) → (Nat → Prop) → World → Prop) (f : Nat) : Prop :=
  ∀ (vb k : Nat) (p : ByteArray) (d : Int) (n : NodeD) (kv : Value) (s t gone nn : Nat) (out : List UInt8) (ab : List Bool) (pv bv tv : Value) (E : Nat → Prop) (w : World),
    GoH L c J s t (belowG L c.deep c.mx f n p d).length k gone nn out ab pv bv tv E w → VisB w vb p d k n kv → ¬ E vb → AtN L k p d n → IntRow c.B w kv n.kids → goesB n d c.mx = true → L.length < k + f + 1 →
    Calls Tryz.prog 121 #[.pointer (some ⟨c.b, 0, none⟩), .pointer (some ⟨vb, 0, none⟩)] w (WkPost L c test J (belowG L c.deep c.mx f n p d) s t gone out ab bv tv E w)
def BelowC (L : List NodeD) (c : Cf) (test : Nat → Bool) (J : (Nat → Prop) → (Nat → Prop) → World → Prop) (f : Nat) : Prop :=
  ∀ (vb k : Nat) (p : ByteArray) (d : Int) (n : NodeD) (kv : Value) (s t gone nn : Nat) (out : List UInt8) (ab : List Bool) (pv bv tv : Value) (E : Nat → Prop) (w : World),
    GoH L c J s (t + 1) (belowG L c.deep c.mx f n p d).length k gone nn out ab pv bv tv E w → VisB w vb p d k n kv → ¬ E vb → AtN L k p d n → IntRow c.B w kv n.kids → L.length < k + f + 1 →
    Calls Tryz.prog 79 #[.pointer (some ⟨c.b, 0, none⟩), .pointer (some ⟨vb, 0, none⟩)] w (WkPost L c test J (belowG L c.deep c.mx f n p d) s t gone out ab bv tv E w)
def GoC (L : List NodeD) (c : Cf) (test : Nat → Bool) (J : (Nat → Prop) → (Nat → Prop) → World → Prop) (f : Nat) : Prop :=
  ∀ (k : Nat) (p : ByteArray) (d : Int) (n : NodeD) (s t gone nn : Nat) (out : List UInt8) (ab : List Bool) (pv bv tv : Value) (E : Nat → Prop) (w : World),
    GoH L c J s t (visG L c.deep c.mx f k p d).length k gone nn out ab pv bv tv E w → AtN L k p d n → L.length < k + f →
    Calls Tryz.prog 46 #[.pointer (some ⟨c.b, 0, none⟩), .int .i64 (k : Int), .string p, .int .i64 d] w (WkPost L c test J (visG L c.deep c.mx f k p d) s t gone out ab bv tv E w)
theorem WkPost.none {test : Nat → Bool} {J : (Nat → Prop) → (Nat → Prop) → World → Prop} {s t t' len lo : Nat} {E : Nat → Prop} {w w' : World} (h : GoH L c J s t' len lo gone nn out ab pv bv tv E w') (ht : t ≤ t') (hT : TurnE (DS c bv tv) E (DS c bv tv) E w w') : WkPost L c test J [] s t gone out ab bv tv E w (.returned (.tuple #[])) w' := by
  refine ⟨rfl, pv, bv, tv, nn, E, ?_, h.j, hT, ?_, ?_⟩
  · have : outW c.mn test [] = [] := rfl
    rw [this, List.append_nil]; exact h.st
  · have : outW c.mn test [] = [] := rfl
    rw [this, List.append_nil]; exact h.ol
  · have := h.nl; simp; omega
theorem below_n (w : World) (n : Nat) : Below w.heap.size w (w.drewN n) := ⟨rfl, rfl, rfl, Nat.le_refl _, fun _ _ => rfl⟩
theorem GoH.below {J : (Nat → Prop) → (Nat → Prop) → World → Prop} {s t len lo : Nat} {E : Nat → Prop} {w w' : World} (hs : Stab J) (h : GoH L c J s t len lo gone nn out ab pv bv tv E w) (hb : Below w.heap.size w w') : GoH L c J s t len lo gone nn out ab pv bv tv E w' :=
  ⟨h.st.below hb, hs _ _ _ _ _ h.j (TurnC.of_below hb), h.ol, h.nl, h.bud, h.abf⟩
theorem WSt.abc (h : WSt L c gone out ab pv bv tv nn W) {k : Nat} {x : Bool} (hx : ab[k]? = some x) : W.cell? ⟨c.ga, k, none⟩ = some (.bool x) := by
  rw [Lib.cell_of_heap h.abv]
  simp [hx]
set_option maxRecDepth 100000 in
set_option maxHeartbeats 4000000 in
theorem below_any {test : Nat → Bool} {J : (Nat → Prop) → (Nat → Prop) → World → Prop} (hA : Asks L c test J) (hL : L.length ≤ 201) (f : Nat) (hK : KidsC L c test J f) : BelowC L c test J f := by
  intro vb k p d n kv s t gone nn out ab pv bv tv E w h hv hE hat hint hf
  have c0 : w.cell? ⟨vb, 3, none⟩ = some (.int .u8 n.kind) := hv.cell 3
  have c1 : w.cell? ⟨vb, 1, none⟩ = some (.int .i64 d) := hv.cell 1
  have c2 : w.cell? ⟨c.b, 4, none⟩ = some (.int .i64 c.mx) := h.st.blk.cell 4
  have c3 : w.cell? ⟨vb, 10, none⟩ = some (.bool false) := hv.cell 10
  have hkl : k < L.length := (List.getElem?_eq_some_iff.1 hat.n).1
  have hkI : (k : Int) < (L.length : Int) := by omega
  have HD : Hid ((n.kind == 100 || n.kind == 120) = dirD n) := rfl
  have HP := hide (⟨h, hv, hE, hat, hint, hf⟩ : _ ∧ _ ∧ _ ∧ _ ∧ _ ∧ _)
  cases hdir : dirD n with
  | false =>
    have HB : Hid (belowG L c.deep c.mx f n p d = []) := by unfold belowG goesB; rw [hdir]; exact rfl
    have hk0 : (n.kind == 100 || n.kind == 120) = false := HD.out.trans hdir
    have HDC : ∀ w', Hid (Calls Tryz.prog 86 #[.int .u8 n.kind] w' fun e w'' => e = .returned (.bool false) ∧ w'' = w') := fun w' => by have := isdir_any n.kind w'; rw [hk0] at this; exact this
    clear hk0 HD h hv hE hat hint hf
    go_enter Tryz.func79, Tryz.ntmps79
    go_wp2_with fail
    go_quiet ((go_at_call 86; exact Calls.quiet_of_same (HDC _).out))
    go_wp2
    first | go_end0 | (refine bodyPost_ret (results_none rfl _ _ _) rfl ?_)
    rw [HB.out]
    exact WkPost.none (HP.out.1.below hA.stab (below_n w nq)) (Nat.le_succ _) (withE (TurnC.of_below (below_n w nq)))
  | true =>
    have hk0 : (n.kind == 100 || n.kind == 120) = true := HD.out.trans hdir
    have HDC : ∀ w', Hid (Calls Tryz.prog 86 #[.int .u8 n.kind] w' fun e w'' => e = .returned (.bool true) ∧ w'' = w') := fun w' => by have := isdir_any n.kind w'; rw [hk0] at this; exact this
    by_cases hdm : d < c.mx
    · have hb1 : decide (c.mx ≤ d) = false := by rw [decide_eq_false_iff_not]; omega
      have c4 : w.cell? ⟨c.b, 9, none⟩ = some (.slice (some ⟨c.ga, 0, none⟩) L.length L.length) := h.st.blk.cell 9
      have c5 : w.cell? ⟨vb, 2, none⟩ = some (.int .i64 (k : Int)) := hv.cell 2
      have c6 : w.cell? ⟨c.ga, k, none⟩ = some (.bool false) := h.st.abc (h.abf k (Nat.le_refl _) hkl)
      have c7 : w.cell? ⟨vb, 0, none⟩ = some (.string p) := hv.cell 0
      by_cases hx : n.kind = 120
      · have hbx : (n.kind == 120) = true := by rw [hx]; rfl
        have HB : Hid (belowG L c.deep c.mx f n p d = []) := by unfold belowG goesB; rw [hx]; simp [Hid]
        have HN : ∀ m1, Hid (Calls Tryz.prog 44 #[.pointer (some ⟨c.b, 0, none⟩), .string p, .string ⟨#[115, 104, 117, 116]⟩] (w.drewN m1) fun e w' => e = .returned (.tuple #[]) ∧ ∃ tv', WSt L c gone out ab pv bv tv' (nn + 1) w' ∧ TurnC (DS c bv tv) (DS c bv tv') (w.drewN m1) w') := fun m1 =>
          note_any p ⟨#[115, 104, 117, 116]⟩ _ (h.st.below (below_n w m1)) (by have := h.nl; have := h.bud; omega) (by have := hat.pd; have := hat.dk; omega) (by decide)
        clear hk0 HD h hv hE hat hint hf hx
        go_enter Tryz.func79, Tryz.ntmps79
        go_wp2_with fail
        go_quiet ((go_at_call 86; exact Calls.quiet_of_same (HDC _).out))
        go_wp2
        go_quiet (fail)
        go_wp2_with fail
        refine (HN _).out.mono ?_
        rintro e w' ⟨rfl, tv', h1, h2⟩
        have HY := hide (⟨h1, h2⟩ : _ ∧ _)
        clear h1 h2
        go_wp2
        go_end0
        obtain ⟨h1, h2⟩ := HY.out
        obtain ⟨h, _⟩ := HP.out
        have hT : TurnC (DS c bv tv) (DS c bv tv') w w' := (TurnC.of_below (below_n w _)).trans h2
        have he : outW c.mn test [] = [] := rfl
        rw [HB.out]
        refine ⟨rfl, pv, bv, tv', nn + 1, E, by rw [he, List.append_nil]; exact h1, hA.stab _ _ _ _ _ h.j hT, withE hT, by rw [he, List.append_nil]; exact h.ol, ?_⟩
        have := h.nl
        simp; omega
      · have hbx : (n.kind == 120) = false := by rw [beq_eq_false_iff_ne]; exact hx
        have hgo : goesB n d c.mx = true := by unfold goesB; simp [hdir, hdm, hx]
        have HN : ∀ m1, Hid (Calls Tryz.prog 121 #[.pointer (some ⟨c.b, 0, none⟩), .pointer (some ⟨vb, 0, none⟩)] (w.drewN m1) (WkPost L c test J (belowG L c.deep c.mx f n p d) s t gone out ab bv tv E (w.drewN m1))) := fun m1 =>
          hK vb k p d n kv s t gone nn out ab pv bv tv E _ (by
            have hg := h.below hA.stab (below_n w m1)
            exact ⟨hg.st, hg.j, hg.ol, by have := hg.nl; omega, hg.bud, hg.abf⟩) hv hE hat (hint.below ((below_n w m1).mono h.st.Bl)) hgo hf
        clear hk0 HD h hv hE hat hint hf hx hgo
        go_enter Tryz.func79, Tryz.ntmps79
        go_wp2_with fail
        go_quiet ((go_at_call 86; exact Calls.quiet_of_same (HDC _).out))
        go_wp2
        go_quiet (fail)
        go_wp2_with fail
        refine (HN _).out.mono ?_
        rintro e w' ⟨rfl, pv', bv', tv', nn', E', h1, h2, h3, h4, h5⟩
        have HY := hide (⟨h1, h2, h3, h4, h5⟩ : _ ∧ _ ∧ _ ∧ _ ∧ _)
        clear h1 h2 h3 h4 h5
        go_wp2
        go_end0
        obtain ⟨h1, h2, h3, h4, h5⟩ := HY.out
        exact ⟨rfl, pv', bv', tv', nn', E', h1, h2, (withE (TurnC.of_below (below_n w _))).trans h3, h4, h5⟩
    · have hb1 : decide (c.mx ≤ d) = true := by rw [decide_eq_true_eq]; omega
      have HB : Hid (belowG L c.deep c.mx f n p d = []) := by unfold belowG goesB; simp [hdm, Hid]
      clear hk0 HD h hv hE hat hint hf
      go_enter Tryz.func79, Tryz.ntmps79
      go_wp2_with fail
      go_quiet ((go_at_call 86; exact Calls.quiet_of_same (HDC _).out))
      go_wp2
      first | go_end0 | (refine bodyPost_ret (results_none rfl _ _ _) rfl ?_)
      rw [HB.out]
      exact WkPost.none (HP.out.1.below hA.stab (below_n w nq)) (Nat.le_succ _) (withE (TurnC.of_below (below_n w nq)))
end Go.Proofs.YtfemboojdablhaaGreatDoor.Tre
namespace Go.Proofs.YtfemboojdablhaaGreatDoor.Tre
open Go.RowKit Go.Shelf
variable {L : List NodeD} {c : Cf} {gone nn : Nat} {out : List UInt8} {ab : List Bool} {pv bv tv : Value} {W W' : World}
theorem WSt.node (h : WSt L c gone out ab pv bv tv nn W) {k : Nat} {n : NodeD} (hn : L[k]? = some n) : ∃ kv, NodeAt W c.g k n kv ∧ IntRow c.B W kv n.kids := by
  rcases h.row with ⟨e, _⟩ | ⟨g, cap, e, hg, hc, hx⟩
  · cases e
  · obtain ⟨rfl, _⟩ : c.g = g ∧ c.cap = cap := by
      simp only [Value.slice.injEq, Option.some.injEq, Addr.mk.injEq] at e
      exact ⟨e.1.1, e.2.2⟩
    exact hx k n hn
theorem WSt.meac (h : WSt L c gone out ab pv bv tv nn W) {k : Nat} (hk : k < L.length) : W.cell? ⟨c.gm, k, none⟩ = some (.int .i64 (k : Int)) := by
  rw [Lib.cell_of_heap h.mea]
  simp [meaL, hk]
theorem vis_len {f k : Nat} {p : ByteArray} {d : Int} {n : NodeD} (h : L[k]? = some n) : (visG L c.deep c.mx (f + 1) k p d).length = (belowG L c.deep c.mx f n p d).length + 1 := by
  rw [visG_some h]; cases c.deep <;> simp
theorem turnE_low {test : Nat → Bool} {J : (Nat → Prop) → (Nat → Prop) → World → Prop} {E D' E' : Nat → Prop} (hA : Asks L c test J) (h : WSt L c gone out ab pv bv tv nn W) (hj : J (DS c bv tv) E W) (hT : TurnE (DS c bv tv) E D' E' W W') : Below c.B W W' :=
  turn_low hT (fun k hk => hk.elim (fun q => (h.lts k q).1) (fun q => hA.low _ _ _ hj k q)) h.Bl
set_option maxRecDepth 100000 in
set_option maxHeartbeats 4000000 in
theorem goto_any {test : Nat → Bool} {J : (Nat → Prop) → (Nat → Prop) → World → Prop} (hA : Asks L c test J) (hL : L.length ≤ 201) (f : Nat) (hB : BelowC L c test J f) : GoC L c test J (f + 1) := by
  intro k p d n s t gone nn out ab pv bv tv E w h hat hf
  have hkl : k < L.length := (List.getElem?_eq_some_iff.1 hat.n).1
  have hkI : (k : Int) < (L.length : Int) := by omega
  have hlen := vis_len (c := c) (f := f) (p := p) (d := d) hat.n
  have hbud := h.bud
  rw [hlen] at hbud
  have hC := count_any w h.st (by omega) (by have := hA.ms; omega)
  have HP := hide (⟨h, hat, hf, hlen⟩ : _ ∧ _ ∧ _ ∧ _)
  clear h hlen hf
  go_enter Tryz.func46, Tryz.ntmps46
  go_wp2_with fail
  refine hC.mono ?_
  rintro e w1 ⟨rfl, h1, hT1⟩
  clear hC
  obtain ⟨kv, hna, hint⟩ := h1.node hat.n
  obtain ⟨n0, n1, n2, n3, n4, n5, n6⟩ := hna
  obtain ⟨ka, km, kc, rfl⟩ : ∃ ka km kc, kv = .slice ka km kc := by
    rcases hint with ⟨e, _⟩ | ⟨_, _, e, _⟩
    · exact ⟨_, _, _, e⟩
    · exact ⟨_, _, _, e⟩
  have c0 : w1.cell? ⟨c.b, 8, none⟩ = some (.slice (some ⟨c.gm, 0, none⟩) L.length L.length) := h1.blk.cell 8
  have c1 : w1.cell? ⟨c.gm, k, none⟩ = some (.int .i64 (k : Int)) := h1.meac hkl
  have c2 : w1.cell? ⟨c.b, 0, none⟩ = some (.slice (some ⟨c.g, 0, none⟩) L.length c.cap) := h1.blk.cell 0
  obtain ⟨W2, hW2⟩ : ∃ W2, w1.alloc (.cells #[.string p, .int .i64 d, .int .i64 (k : Int), .int .u8 n.kind, .string n.name, .int .i64 n.up, .int .i64 n.size, .int .i64 n.time, .string n.text, .slice ka km kc, .bool false] 122) = W2 := ⟨_, rfl⟩
  have hb2 : Below w1.heap.size w1 W2 := by rw [← hW2]; exact (Below.refl _ _).alloc (Nat.le_refl _) _
  have hv2 : VisB W2 w1.heap.size p d k n (.slice ka km kc) := by rw [← hW2]; exact World.alloc_heap_new w1 _
  have h2 : WSt L c (gone + 1) out ab pv bv tv nn W2 := h1.below hb2
  have d0 : W2.cell? ⟨c.b, 2, none⟩ = some (.bool c.deep) := h2.blk.cell 2
  have hj2 : J (DS c bv tv) E W2 := hA.stab _ _ _ _ _ (hA.stab _ _ _ _ _ HP.out.1.j hT1) (TurnC.of_below hb2)
  have hE2 : ¬ E w1.heap.size := fun q => by have := hA.lt _ _ _ HP.out.1.j _ q; have := hT1.size; omega
  have hi2 : IntRow c.B W2 (.slice ka km kc) n.kids := hint.below (hb2.mono h1.Bl)
  have HT2 : Hid (TurnE (DS c bv tv) E (DS c bv tv) E w W2) := withE (hT1.trans (TurnC.of_below hb2))
  have HW2 := hide hW2
  have hvl := hv2.lt
  obtain ⟨vb, hvb⟩ : ∃ vb, w1.heap.size = vb := ⟨_, rfl⟩
  have HVB := hide hvb
  rw [hvb] at hv2 hE2 hvl
  have HX := hide (⟨h2, hv2, hj2, hE2, hi2, hat⟩ : _ ∧ _ ∧ _ ∧ _ ∧ _ ∧ _)
  clear h1 hT1 hint hW2 hb2 hv2 h2 hj2 hE2 hi2 hvb hat
  have hp1 : p.size ≤ 12300 := by have := HX.out.2.2.2.2.2.pd; have := HX.out.2.2.2.2.2.dk; omega
  cases hdp : c.deep with
  | false =>
    rw [hdp] at d0
    go_wp2_with (rw [HW2.out])
    go_wp2_with fail
    rw [HVB.out]
    obtain ⟨h2, hv2, hj2, hE2, hi2, hat⟩ := HX.out
    obtain ⟨h, _, hf, hlen⟩ := HP.out
    have hol := h.ol
    have hnl := h.nl
    have hbs := h.bud
    refine (look_any hA.wnt hA.stab vb k p d n _ E W2 h2 hj2 hv2 hE2 hat.n (by omega) hat.p0).mono ?_
    rintro e w3 ⟨rfl, pv3, bv3, E3, h3, j3, T3⟩
    have hlb := lineB_le (decide (c.mn ≤ d) && test k) p
    have hv3 : VisB w3 vb p d k n (.slice ka km kc) := hv2.turn T3 (nDE (hv2.nD h2) hE2)
    have hE3 : ¬ E3 vb := nE_turn T3 hvl (hv2.nD h2) hE2
    have hi3 : IntRow c.B w3 (.slice ka km kc) n.kids := hi2.below (turnE_low hA h2 hj2 T3)
    have HBL := hide (hB vb k p d n (.slice ka km kc) s t (gone + 1) nn (out ++ lineB (decide (c.mn ≤ d) && test k) p) ab pv3 bv3 tv E3 w3 ⟨h3, j3, by rw [List.length_append]; omega, by omega, by omega, h.abf⟩ hv3 hE3 hat hi3 (by omega))
    have e1 : gone + (visG L false c.mx (f + 1) k p d).length = gone + 1 + (belowG L false c.mx f n p d).length := by have := hlen; rw [hdp] at this; omega
    have e2 : out ++ outW c.mn test (visG L false c.mx (f + 1) k p d) = out ++ lineB (decide (c.mn ≤ d) && test k) p ++ outW c.mn test (belowG L false c.mx f n p d) := by
      rw [visG_some hat.n]
      simp only [Bool.false_eq_true, if_false]
      rw [show (⟨p, d, k⟩ :: belowG L false c.mx f n p d) = [⟨p, d, k⟩] ++ belowG L false c.mx f n p d from rfl, outW_app, outW_one, List.append_assoc]
    have HE := hide (⟨e1, e2, T3⟩ : _ ∧ _ ∧ _)
    clear h2 hv2 hj2 hE2 hi2 hat h hf hlen hol hnl hbs h3 j3 T3 hlb hv3 hE3 hi3 e1 e2
    go_wp2_with fail
    refine HBL.out.mono ?_
    rintro e w4 ⟨rfl, pv4, bv4, tv4, nn4, E4, h4, j4, T4, o4, m4⟩
    have HY := hide (⟨h4, j4, T4, o4, m4⟩ : _ ∧ _ ∧ _ ∧ _ ∧ _)
    clear h4 j4 T4 o4 m4
    go_wp2
    go_end0
    obtain ⟨h4, j4, T4, o4, m4⟩ := HY.out
    obtain ⟨e1, e2, T3⟩ := HE.out
    rw [hdp] at h4 o4 m4
    refine ⟨rfl, pv4, bv4, tv4, nn4, E4, ?_, j4, (HT2.out.trans T3).trans T4, ?_, ?_⟩
    · rw [hdp, e1, e2]; exact h4
    · rw [hdp, e1, e2]; exact o4
    · rw [hdp, e1]; exact m4
  | true =>
    rw [hdp] at d0
    go_wp2_with (rw [HW2.out])
    go_wp2_with fail
    rw [HVB.out]
    obtain ⟨h2, hv2, hj2, hE2, hi2, hat⟩ := HX.out
    obtain ⟨h, _, hf, hlen⟩ := HP.out
    have hol := h.ol
    have hnl := h.nl
    have hbs := h.bud
    refine (hB vb k p d n (.slice ka km kc) (s + 20000) t (gone + 1) nn out ab pv bv tv E W2 ⟨h2, hj2, by omega, by omega, by omega, h.abf⟩ hv2 hE2 hat hi2 (by omega)).mono ?_
    rintro e w3 ⟨rfl, pv3, bv3, tv3, nn3, E3, h3, j3, T3, o3, m3⟩
    have hlb := lineB_le (decide (c.mn ≤ d) && test k) p
    have hv3 : VisB w3 vb p d k n (.slice ka km kc) := hv2.turn T3 (nDE (hv2.nD h2) hE2)
    have hE3 : ¬ E3 vb := nE_turn T3 hvl (hv2.nD h2) hE2
    have HBL := hide (look_any hA.wnt hA.stab vb k p d n _ E3 w3 h3 j3 hv3 hE3 hat.n (by omega) hat.p0)
    have e1 : gone + (visG L true c.mx (f + 1) k p d).length = gone + 1 + (belowG L true c.mx f n p d).length := by have := hlen; rw [hdp] at this; omega
    have e2 : out ++ outW c.mn test (visG L true c.mx (f + 1) k p d) = out ++ outW c.mn test (belowG L true c.mx f n p d) ++ lineB (decide (c.mn ≤ d) && test k) p := by
      rw [visG_some hat.n]
      simp only [if_true]
      rw [outW_app, outW_one, List.append_assoc]
    have o4 : (out ++ outW c.mn test (belowG L c.deep c.mx f n p d) ++ lineB (decide (c.mn ≤ d) && test k) p).length + s ≤ 20000 * (gone + 1 + (belowG L c.deep c.mx f n p d).length) := by rw [List.length_append]; omega
    have HE := hide (⟨e1, e2, T3, o4, m3⟩ : _ ∧ _ ∧ _ ∧ _ ∧ _)
    clear h2 hv2 hj2 hE2 hi2 hat h hf hlen hol hnl hbs h3 j3 T3 hlb hv3 hE3 e1 e2 o3 m3 o4
    go_wp2_with fail
    refine HBL.out.mono ?_
    rintro e w4 ⟨rfl, pv4, bv4, E4, h4, j4, T4⟩
    have HY := hide (⟨h4, j4, T4⟩ : _ ∧ _ ∧ _)
    clear h4 j4 T4
    go_wp2
    first | go_end0 | (refine bodyPost_ret (results_none rfl _ _ _) rfl ?_)
    obtain ⟨h4, j4, T4⟩ := HY.out
    obtain ⟨e1, e2, T3, o4, m4⟩ := HE.out
    rw [hdp] at h4 o4 m4
    refine ⟨rfl, pv4, bv4, tv3, nn3, E4, ?_, j4, (HT2.out.trans T3).trans T4, ?_, ?_⟩
    · rw [hdp, e1, e2]; exact h4
    · rw [hdp, e1, e2]; exact o4
    · rw [hdp, e1]; exact m4
end Go.Proofs.YtfemboojdablhaaGreatDoor.Tre
namespace Go.Proofs.YtfemboojdablhaaGreatDoor.Tre
open Go.RowKit Go.Shelf
variable {L : List NodeD} {c : Cf} {gone nn : Nat} {out : List UInt8} {ab : List Bool} {pv bv tv : Value} {W W' : World}
theorem WSt.setab (h : WSt L c gone out ab pv bv tv nn W) {k : Nat} {x : Bool} : WSt L c gone out (ab.set k x) pv bv tv nn (W.setCell ⟨c.ga, k, none⟩ (.bool x)) ∧ TurnC (DS c bv tv) (DS c bv tv) W (W.setCell ⟨c.ga, k, none⟩ (.bool x)) := by
  obtain ⟨ts, ht⟩ := h.nts
  have hba : c.b ≠ c.ga := fun e => ty_ne (k := c.b) h.blk (e.symm ▸ h.abv) (by decide)
  have hbm : c.gm ≠ c.ga := fun e => h.ngm (.inr (.inl e))
  have hbb : ∀ k, bv.ownBlock = some k → k ≠ c.ga := fun k hk e => own_ne h.buf h.abv (by decide) (e ▸ hk)
  have hbt : ∀ k, tv.ownBlock = some k → k ≠ c.ga := fun k hk e => own_ne ht h.abv (by decide) (e ▸ hk)
  refine ⟨⟨(wset_other hba).trans h.blk, h.pvs, wown_keep h.buf (fun k hk => wset_other (hbb k hk)), h.emp, ⟨ts, wown_keep ht (fun k hk => wset_other (hbt k hk))⟩, (wset_other hbm).trans h.mea, ?_, by rw [List.length_set]; exact h.abl, h.row.below ((Below.refl c.B W).setCell (p := ⟨c.ga, k, none⟩) h.gB _), h.bB, h.gB⟩, TurnC.setCell _ _ _ (.inr (.inl rfl))⟩
  rw [wset_block h.abv]
  congr 2
  apply Array.ext'
  simp [List.map_set]
theorem set_back {ab : List Bool} {k : Nat} (h : ab[k]? = some false) : (ab.set k true).set k false = ab := by
  rw [List.set_set]
  obtain ⟨h1, h2⟩ := List.getElem?_eq_some_iff.1 h
  rw [← h2]
  exact List.set_getElem_self h1
def kidsX (L : List NodeD) (deep : Bool) (mx : Int) (f : Nat) (p : ByteArray) (d : Int) (ks : List Nat) : List Vis := ks.flatMap (fun i => visG L deep mx f i (jn p (nameAt L i)) (d + 1))
theorem kidsX_next {deep : Bool} {mx : Int} {f : Nat} {p : ByteArray} {d : Int} {ks : List Nat} {j i : Nat} (h : ks[j]? = some i) : kidsX L deep mx f p d (ks.take (j + 1)) = kidsX L deep mx f p d (ks.take j) ++ visG L deep mx f i (jn p (nameAt L i)) (d + 1) := by
  unfold kidsX
  rw [List.take_add_one, h, List.flatMap_append]
  simp
theorem kidsX_le {deep : Bool} {mx : Int} {f : Nat} {p : ByteArray} {d : Int} {ks : List Nat} {j : Nat} : (kidsX L deep mx f p d (ks.take j)).length ≤ (kidsX L deep mx f p d ks).length := by
  conv => rhs; rw [← List.take_append_drop j ks]
  unfold kidsX
  rw [List.flatMap_append, List.length_append]
  omega
theorem jn_size (a b : ByteArray) : (jn a b).size ≤ a.size + b.size + 1 := joinS_size a b
theorem jn_pos {a b : ByteArray} (h : 0 < a.size) : 0 < (jn a b).size := by
  unfold jn
  split <;> simp only [ByteArray.size_append] <;> omega
theorem name_le {K : List ByteArray} (h : KInv L K) {i : Nat} {m : NodeD} (hm : L[i]? = some m) (h0 : 0 < i) : m.name.size ≤ 60 := by
  obtain ⟨way, a, h1, h2, h3, _⟩ := h.node i m hm h0
  rw [h3]
  have hmem : lastL (splitL 47 way.data.toList) ∈ splitL 47 way.data.toList := by
    rcases snoc_cases (splitL 47 way.data.toList) with e | ⟨q, x, e⟩
    · exact absurd e (split_ne _ _)
    · rw [e]; simp [lastL]
  have := List.all_eq_true.1 h2 (lastS way) (List.mem_map.2 ⟨_, hmem, rfl⟩)
  unfold nameOk at this
  simp only [Bool.and_eq_true, decide_eq_true_eq] at this
  exact this.1.1.1.2
set_option maxRecDepth 100000 in
set_option maxHeartbeats 8000000 in
theorem kids_any {K : List ByteArray} {test : Nat → Bool} {J : (Nat → Prop) → (Nat → Prop) → World → Prop} (hA : Asks L c test J) (hK : KInv L K) (f : Nat) (hG : GoC L c test J f) : KidsC L c test J f := by
  intro vb k p d n kv s t gone nn out ab pv bv tv E w h hv hE hat hint hgo hf
  have hkl : k < L.length := (List.getElem?_eq_some_iff.1 hat.n).1
  have hkI : (k : Int) < (L.length : Int) := by omega
  have hL := hK.lim
  have hX : belowG L c.deep c.mx f n p d = kidsX L c.deep c.mx f p d n.kids := by unfold belowG kidsX; rw [if_pos hgo]
  have hkid : ∀ i ∈ n.kids, k < i ∧ ∃ m, L[i]? = some m := by
    intro i hi
    obtain ⟨h0, m, hm, hu⟩ := (hK.kids k n hat.n i).1 hi
    obtain ⟨_, a2, _, _, _, q4, q5, _⟩ := hK.node i m hm h0
    exact ⟨by omega, m, hm⟩
  obtain ⟨ka, kc, rfl, hkc⟩ : ∃ ka kc, kv = .slice ka n.kids.length kc ∧ (∀ (j i : Nat), n.kids[j]? = some i → ∃ g2, ka = some ⟨g2, 0, none⟩ ∧ g2 < c.B ∧ n.kids.length ≤ kc ∧ w.cell? ⟨g2, j, none⟩ = some (.int .i64 (i : Int))) := by
    rcases hint with ⟨e, hk⟩ | ⟨g2, cap2, e, h1, h2, h3⟩
    · exact ⟨none, 0, by rw [e, hk]; rfl, fun j i hj => by rw [hk] at hj; cases hj⟩
    · exact ⟨_, _, e, fun j i hj => ⟨g2, rfl, h1, h2, h3 j i hj⟩⟩
  have hks : n.kids.length ≤ 201 := Nat.le_trans (hK.klen k n hat.n) hL
  obtain ⟨hS0, hT0⟩ := h.st.setab (k := k) (x := true)
  obtain ⟨W1, hW1⟩ : ∃ W1, (w.setCell ⟨c.ga, k, none⟩ (.bool true)).drew = W1 := ⟨_, rfl⟩
  have hS1 : WSt L c gone out (ab.set k true) pv bv tv nn W1 := by rw [← hW1]; exact hS0.below (Below.refl _ _).drew
  have hTa : TurnC (DS c bv tv) (DS c bv tv) w W1 := by rw [← hW1]; exact hT0.trans (TurnC.of_below (Below.refl _ _).drew)
  have hj1 := hA.stab _ _ _ _ _ h.j hTa
  have hv1 : VisB W1 vb p d k n (.slice ka n.kids.length kc) := hv.turn hTa (hv.nD h.st)
  have c0 : w.drew.cell? ⟨c.b, 9, none⟩ = some (.slice (some ⟨c.ga, 0, none⟩) L.length L.length) := h.st.blk.cell 9
  have c1 : w.drew.cell? ⟨vb, 2, none⟩ = some (.int .i64 (k : Int)) := hv.cell 2
  have c2 : w.drew.cell? ⟨c.ga, k, none⟩ = some (.bool false) := h.st.abc (h.abf k (Nat.le_refl _) hkl)
  have c3 : w.drew.frozen? ⟨c.ga, k, none⟩ = false := Lib.frozen_of_heap h.st.abv k
  have d0 : W1.cell? ⟨vb, 9, none⟩ = some (.slice ka n.kids.length kc) := hv1.cell 9
  have HW1 := hide hW1
  have HP := hide (⟨h, hv, hE, hat, hf, hX, hkid, hkc⟩ : _ ∧ _ ∧ _ ∧ _ ∧ _ ∧ _ ∧ _ ∧ _)
  have H1 := hide (⟨hS1, hTa, hj1, hv1⟩ : _ ∧ _ ∧ _ ∧ _)
  clear h hv hE hat hint hgo hf hX hkid hkc hS1 hS0 hT0 hTa hj1 hv1 hW1
  go_enter Tryz.func121, Tryz.ntmps121
  go_wp2
  refine (fun (KEY : (?G : World → Prop) W1) => ?main) ?key
  case main =>
    go_region
    all_goals (rw [HW1.out]; exact KEY)
  case key =>
    go_wp2
    go_loopw [21] (fun iv wr => ∃ (j : Nat) (pv' bv' tv' : Value) (nn' : Nat) (E' : Nat → Prop), iv = .int .i64 (j : Int) ∧ j ≤ n.kids.length ∧ GoH L c J s t 0 (k + 1) (gone + (kidsX L c.deep c.mx f p d (n.kids.take j)).length) nn' (out ++ outW c.mn test (kidsX L c.deep c.mx f p d (n.kids.take j))) (ab.set k true) pv' bv' tv' E' wr ∧ TurnE (DS c bv tv) E (DS c bv' tv') E' W1 wr)
      (fun iv _ => n.kids.length - (intOf iv).toNat)
    case atStart =>
      obtain ⟨hS1, hTa, hj1, hv1⟩ := H1.out
      obtain ⟨h, hv, hE, hat, hf, hX, hkid, hkc⟩ := HP.out
      refine ⟨0, pv, bv, tv, nn, E, rfl, Nat.zero_le _, ⟨by simpa [kidsX, outW, outL] using hS1, hj1, by simpa [kidsX, outW, outL] using h.ol, by simpa [kidsX] using h.nl, by have := h.bud; simp [kidsX]; omega, fun i hi hl => ?_⟩, TurnC.refl _ _⟩
      rw [List.getElem?_set_ne (by omega)]
      exact h.abf i (by omega) hl
    case round =>
      obtain ⟨j, pv', bv', tv', nn', E', rfl, hj, hg, hT⟩ := hrel
      obtain ⟨h, hv, hE, hat, hf, hX, hkid, hkc⟩ := HP.out
      obtain ⟨hS1, hTa, hj1, hv1⟩ := H1.out
      have hlow : Below c.B W1 wr := turnE_low hA hS1 hj1 hT
      have hlow0 : Below c.B w W1 := turn_low hTa (fun k hk => (h.st.lts k hk).1) h.st.Bl
      have hvr : VisB wr vb p d k n (.slice ka n.kids.length kc) := hv1.turn hT (nDE (hv1.nD hS1) hE)
      have hEr : ¬ E' vb := nE_turn hT hv1.lt (hv1.nD hS1) hE
      by_cases hlt : j < n.kids.length
      · obtain ⟨i, hi⟩ : ∃ i, n.kids[j]? = some i := ⟨_, List.getElem?_eq_getElem hlt⟩
        obtain ⟨hki, m, hm⟩ := hkid i (List.mem_of_getElem? hi)
        obtain ⟨g2, rfl, hg2, hkc2, hcell⟩ := hkc j i hi
        have hil : i < L.length := (List.getElem?_eq_some_iff.1 hm).1
        have hjI : (j : Int) < (n.kids.length : Int) := by omega
        have hiI : (i : Int) < (L.length : Int) := by omega
        have b1 : decide ((0 : Int) ≤ (i : Int)) = true := by rw [decide_eq_true_eq]; omega
        have b2 : decide ((i : Int) < (L.length : Int)) = true := by rw [decide_eq_true_eq]; omega
        have b3 : decide ((j : Int) < (n.kids.length : Int)) = true := by rw [decide_eq_true_eq]; omega
        have c0 : wr.cell? ⟨g2, j, none⟩ = some (.int .i64 (i : Int)) := (hlow.cell (p := ⟨g2, j, none⟩) hg2).trans ((hlow0.cell (p := ⟨g2, j, none⟩) hg2).trans hcell)
        have c1 : wr.cell? ⟨c.b, 0, none⟩ = some (.slice (some ⟨c.g, 0, none⟩) L.length c.cap) := hg.st.blk.cell 0
        have c2 : wr.drew.cell? ⟨c.b, 0, none⟩ = some (.slice (some ⟨c.g, 0, none⟩) L.length c.cap) := hg.st.blk.cell 0
        have c3 : wr.drew.cell? ⟨vb, 0, none⟩ = some (.string p) := hvr.cell 0
        have c4 : wr.drew.cell? ⟨vb, 1, none⟩ = some (.int .i64 d) := hvr.cell 1
        obtain ⟨kv2, ⟨_, m1, _⟩, _⟩ := hg.st.node hm
        have c5 : wr.drew.cell? ⟨c.g, i * 7 + 1, none⟩ = some (.string m.name) := m1
        have hnm := name_le hK hm (by omega)
        have hpz := hat.pd
        have hdk := hat.dk
        have hd0 := hat.d0
        have HJ : ∀ w', Hid (Calls Tryz.prog 90 #[.string p, .string m.name] w' fun e w'' => e = .returned (.string (jn p m.name)) ∧ w'' = w') := fun w' => join_any p m.name w' (by omega) (by omega)
        have hnx := kidsX_next (L := L) (deep := c.deep) (mx := c.mx) (f := f) (p := p) (d := d) hi
        rw [nameAt_of hm] at hnx
        have hle := kidsX_le (L := L) (deep := c.deep) (mx := c.mx) (f := f) (p := p) (d := d) (ks := n.kids) (j := j + 1)
        have hb := h.bud
        rw [hX] at hb
        rw [hnx, List.length_append] at hle
        have hjs := jn_size p m.name
        have HGO := hide (hG i (jn p m.name) (d + 1) m s t _ nn' _ (ab.set k true) pv' bv' tv' E' wr.drew ⟨hg.st.below (Below.refl _ _).drew, hA.stab _ _ _ _ _ hg.j (TurnC.of_below (Below.refl _ _).drew), hg.ol, hg.nl, by omega, fun x hx hxl => hg.abf x (by omega) hxl⟩ ⟨hm, by omega, by omega, jn_pos hat.p0, by omega⟩ (by omega))
        have hnum : ∀ (a b : Nat) (l : List Vis), a + b + l.length = a + (b + l.length) := fun a b l => by omega
        have HY := hide (⟨hg, hT, hnx⟩ : _ ∧ _ ∧ _)
        have hd1 : -9223372036854775808 ≤ d + 1 ∧ d + 1 ≤ 9223372036854775807 := by omega
        clear h hv hE hat hf hX hkid hkc hS1 hTa hj1 hv1 hlow hlow0 hvr hEr hg hT hnx hle hb hjs hcell m1 hm
        go_wp2
        refine wp_region_still_tail 20 (by kernel_rfl) (by kernel_rfl) ?_
        change wpStill Tryz.prog _ wr.drew (fun a' => wpList Tryz.prog _ _ _ a' wr.drew) _ _
        simp only [List.take_succ_cons, List.take_zero, List.drop_succ_cons, List.drop_zero]
        repeat still_step
        still_call (HJ _).out
        repeat still_step
        refine wpStill_nil ?_
        go_wp2_with fail
        refine HGO.out.mono ?_
        rintro e w7 ⟨rfl, pv7, bv7, tv7, nn7, E7, h7, j7, T7, o7, m7⟩
        have HZ := hide (⟨h7, j7, T7, o7, m7⟩ : _ ∧ _ ∧ _ ∧ _ ∧ _)
        clear h7 j7 T7 o7 m7
        go_wp2
        go_roundw
        case rel =>
          obtain ⟨h7, j7, T7, o7, m7⟩ := HZ.out
          obtain ⟨hg, hT, hnx⟩ := HY.out
          obtain ⟨h, _, _, _, _, hX, _⟩ := HP.out
          have hb := h.bud
          rw [hX] at hb
          have hle := kidsX_le (L := L) (deep := c.deep) (mx := c.mx) (f := f) (p := p) (d := d) (ks := n.kids) (j := j + 1)
          rw [hnum] at h7 o7 m7
          rw [List.append_assoc, ← outW_app, ← hnx] at h7 o7
          rw [← List.length_append, ← hnx] at h7 o7 m7
          exact ⟨j + 1, pv7, bv7, tv7, nn7, E7, by go_num, by omega, ⟨h7, j7, o7, m7, by omega, hg.abf⟩, hT.trans ((withE (TurnC.of_below (Below.refl _ _).drew)).trans T7)⟩
        case measure => simp [intOf]; omega
      · have hje : j = n.kids.length := by omega
        subst hje
        have b3 : decide ((n.kids.length : Int) < (n.kids.length : Int)) = false := by rw [decide_eq_false_iff_not]; omega
        rw [List.take_length, ← hX] at hg
        have c0 : wr.drew.cell? ⟨c.b, 9, none⟩ = some (.slice (some ⟨c.ga, 0, none⟩) L.length L.length) := hg.st.blk.cell 9
        have c1 : wr.drew.cell? ⟨vb, 2, none⟩ = some (.int .i64 (k : Int)) := hvr.cell 2
        have hak := h.abf k (Nat.le_refl _) hkl
        have c2 : wr.drew.cell? ⟨c.ga, k, none⟩ = some (.bool true) := hg.st.abc (by rw [List.getElem?_set_self (by have := h.st.abl; omega)])
        have c3 : wr.drew.frozen? ⟨c.ga, k, none⟩ = false := Lib.frozen_of_heap hg.st.abv k
        obtain ⟨hS8, hT8⟩ := hg.st.setab (k := k) (x := false)
        rw [set_back hak] at hS8
        obtain ⟨W8, hW8⟩ : ∃ W8, (wr.setCell ⟨c.ga, k, none⟩ (.bool false)).drew = W8 := ⟨_, rfl⟩
        have hS9 : WSt L c (gone + (belowG L c.deep c.mx f n p d).length) (out ++ outW c.mn test (belowG L c.deep c.mx f n p d)) ab pv' bv' tv' nn' W8 := by rw [← hW8]; exact hS8.below (Below.refl _ _).drew
        have hT9 : TurnC (DS c bv' tv') (DS c bv' tv') wr W8 := by rw [← hW8]; exact hT8.trans (TurnC.of_below (Below.refl _ _).drew)
        have HW8 := hide hW8
        have HY := hide (⟨hS9, hA.stab _ _ _ _ _ hg.j hT9, ((withE hTa).trans hT).trans (withE hT9), hg.ol, hg.nl⟩ : _ ∧ _ ∧ _ ∧ _ ∧ _)
        clear h hv hE hat hf hX hkid hkc hS1 hTa hj1 hv1 hlow hlow0 hvr hEr hg hT hS8 hT8 hS9 hT9 hW8 hak
        go_wp2
        refine (fun (KEY : (?G3 : World → Prop) W8) => ?main3) ?key3
        case main3 =>
          go_region
          all_goals (rw [HW8.out]; exact KEY)
        case key3 =>
          go_wp2
          go_end0
          exact ⟨rfl, pv', bv', tv', nn', E', HY.out⟩
end Go.Proofs.YtfemboojdablhaaGreatDoor.Tre
namespace Go.Proofs.YtfemboojdablhaaGreatDoor.Tre
open Go.RowKit Go.Shelf
theorem go_all {L : List NodeD} {c : Cf} {K : List ByteArray} {test : Nat → Bool} {J : (Nat → Prop) → (Nat → Prop) → World → Prop} (hA : Asks L c test J) (hK : KInv L K) : ∀ f, GoC L c test J f
  | 0 => fun k p d n s t gone nn out ab pv bv tv E w _ hat hf => by have := (List.getElem?_eq_some_iff.1 hat.n).1; omega
  | f + 1 => goto_any hA hK.lim f (below_any hA hK.lim f (kids_any hA hK f (go_all hA hK f)))
abbrev trueV : Value := .agg #[.string ⟨#[45, 116, 114, 117, 101]⟩, .string ⟨#[]⟩, .int .i64 0, .int .i64 0, .slice none 0 0]
set_option maxRecDepth 100000 in
set_option maxHeartbeats 1000000 in
theorem question_true (w : World) : Calls Tryz.prog 67 #[trueV] w fun e w' => e = .returned (.func (.func 95) #[] #[]) ∧ Below w.heap.size w w' := by
  go_enter Tryz.func67, Tryz.ntmps67
  go_wp2
  go_ret
  exact ⟨rfl, (Below.refl _ _).alloc (Nat.le_refl _) _⟩
set_option maxRecDepth 100000 in
set_option maxHeartbeats 1000000 in
theorem checkOf_true (b : Nat) (w : World) : Calls Tryz.prog 38 #[.pointer (some ⟨b, 0, none⟩), trueV] w fun e w' => e = .returned (.func (.func 95) #[] #[]) ∧ Below w.heap.size w w' := by
  obtain ⟨W1, hW1⟩ : ∃ W1, w.alloc (.cells #[.string ⟨#[45, 116, 114, 117, 101]⟩, .string ⟨#[]⟩, .int .i64 0, .int .i64 0, .slice none 0 0] 35) = W1 := ⟨_, rfl⟩
  have hb1 : Below w.heap.size w W1 := by rw [← hW1]; exact (Below.refl _ _).alloc (Nat.le_refl _) _
  have HB1 := hide hb1
  have HQ := hide (question_true W1)
  have hx : W1.heap[w.heap.size]? = some (.cells #[.string ⟨#[45, 116, 114, 117, 101]⟩, .string ⟨#[]⟩, .int .i64 0, .int .i64 0, .slice none 0 0] 35 (0, 0)) := by rw [← hW1]; exact World.alloc_heap_new w _
  have c0 : W1.cell? ⟨w.heap.size, 0, none⟩ = some (.string ⟨#[45, 116, 114, 117, 101]⟩) := by rw [Lib.cell_of_heap hx]; rfl
  have c1 : W1.cell? ⟨w.heap.size, 1, none⟩ = some (.string ⟨#[]⟩) := by rw [Lib.cell_of_heap hx]; rfl
  have c2 : W1.cell? ⟨w.heap.size, 2, none⟩ = some (.int .i64 0) := by rw [Lib.cell_of_heap hx]; rfl
  have c3 : W1.cell? ⟨w.heap.size, 3, none⟩ = some (.int .i64 0) := by rw [Lib.cell_of_heap hx]; rfl
  have c4 : W1.cell? ⟨w.heap.size, 4, none⟩ = some (.slice none 0 0) := by rw [Lib.cell_of_heap hx]; rfl
  have HW1 := hide hW1
  clear hW1 hb1 hx
  go_enter Tryz.func38, Tryz.ntmps38
  go_wp2_with (rw [HW1.out])
  go_wp2_with fail
  refine HQ.out.mono ?_
  rintro e w2 ⟨rfl, hb2⟩
  have HB2 := hide hb2
  clear hb2
  go_wp2
  go_ret
  exact ⟨rfl, HB1.out.trans (HB2.out.mono HB1.out.size)⟩
set_option maxRecDepth 100000 in
theorem isAction_true (w : World) : Calls Tryz.prog 68 #[.string ⟨#[45, 116, 114, 117, 101]⟩] w fun e w' => e = .returned (.bool false) ∧ w' = w := by
  go_enter Tryz.func68, Tryz.ntmps68
  go_wp2
  go_ret
  exact ⟨rfl, rfl⟩
set_option maxRecDepth 100000 in
theorem allOf_any (kv : Value) (w : World) (hk : ∃ g m cc, kv = .slice (some ⟨g, 0, none⟩) m cc) : Calls Tryz.prog 40 #[kv] w fun e w' => e = .returned (.func (.func 69) #[] #[.pointer (some ⟨w.heap.size, 0, none⟩)]) ∧ w' = w.alloc (.cells #[kv] 97) := by
  obtain ⟨g, m, cc, rfl⟩ := hk
  go_enter Tryz.func40, Tryz.ntmps40
  go_wp2
  go_ret
  exact ⟨rfl, rfl⟩
set_option maxRecDepth 100000 in
theorem print_any (b : Nat) (w : World) : Calls Tryz.prog 41 #[.pointer (some ⟨b, 0, none⟩), .int .u8 10] w fun e w' => e = .returned (.func (.func 70) #[] #[.pointer (some ⟨w.heap.size, 0, none⟩), .pointer (some ⟨w.heap.size + 1, 0, none⟩)]) ∧ w' = (w.alloc (.cells #[.pointer (some ⟨b, 0, none⟩)] 63)).alloc (.cells #[.int .u8 10] 5) := by
  go_enter Tryz.func41, Tryz.ntmps41
  go_wp2
  go_ret
  exact ⟨by simp, rfl⟩
end Go.Proofs.YtfemboojdablhaaGreatDoor.Tre
