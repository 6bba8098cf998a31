/- Walk: the walk begins. -/
import Derived.Test.YtfemboojdablhaaGreatDoorWkP
namespace Go.Proofs.YtfemboojdablhaaGreatDoor.Tre
open Go.RowKit Go.Shelf

theorem init_st {L : List NodeD} {n0 g cap : Nat} {deep : Bool} {mn mx ms : Int} {iv : Value} {b gm ga kb : Nat} {W : World} (h : NewW n0 g L.length cap deep mn mx ms (.func (.func 69) #[] #[.pointer (some ⟨kb, 0, none⟩)]) iv b gm ga W) (hrow : NodeRow n0 W (.slice (some ⟨g, 0, none⟩) L.length cap) L) :
    WSt L ⟨b, ga, gm, g, cap, kb, n0, deep, mn, mx, ms, iv⟩ 0 [] (List.replicate L.length false) (.pointer none) (.slice none 0 0) (.slice none 0 0) 0 W :=
  ⟨h.blk, .inl rfl, World.ownsRow_nil _ _ _ _, fun _ => rfl, ⟨[], World.ownsRow_nil _ _ _ _⟩, h.mea, by
    have := h.abv
    rw [this]
    congr 2
    apply Array.ext'
    simp, by simp, hrow, h.lb, h.la⟩
theorem init_j {n0 g n cap : Nat} {deep : Bool} {mn mx ms : Int} {iv wv : Value} {b gm ga kb kr wb eb : Nat} {W : World} (h : NewW n0 g n cap deep mn mx ms wv iv b gm ga W) (hkb : W.heap[kb]? = some (.cells #[.slice (some ⟨kr, 0, none⟩) 2 2] 97 (0, 0))) (hkr : W.heap[kr]? = some (.cells #[.func (.func 95) #[] #[], .func (.func 70) #[] #[.pointer (some ⟨wb, 0, none⟩), .pointer (some ⟨eb, 0, none⟩)]] 85 (0, 0))) (hpr : PrB W b wb eb) :
    JTrue ⟨b, ga, gm, g, cap, kb, n0, deep, mn, mx, ms, iv⟩ kr wb eb (DS ⟨b, ga, gm, g, cap, kb, n0, deep, mn, mx, ms, iv⟩ (.slice none 0 0) (.slice none 0 0)) (fun _ => False) W := by
  have nd : ∀ {k : Nat} {a : Array Value} {t : TypeId} {y : Nat × Nat}, W.heap[k]? = some (.cells a t y) → t ≠ 91 → t ≠ 4 → ¬ DS ⟨b, ga, gm, g, cap, kb, n0, deep, mn, mx, ms, iv⟩ (.slice none 0 0) (.slice none 0 0) k := by
    rintro k a t y hk h1 h2 (e | e | e | e)
    · have e : k = b := e
      subst e
      exact ty_ne hk h.blk h1
    · have e : k = ga := e
      subst e
      exact ty_ne hk h.abv h2
    · cases e
    · cases e
  exact ⟨hkb, hkr, hpr, nd hkb (by decide) (by decide), nd hkr (by decide) (by decide), nd hpr.w (by decide) (by decide), nd hpr.e (by decide) (by decide), fun _ => id⟩

variable {L : List NodeD} {c : Cf} {nn : Nat} {ab : List Bool} {pv bv tv : Value}
set_option maxRecDepth 100000 in
set_option maxHeartbeats 4000000 in
theorem start_any {K : List ByteArray} {test : Nat → Bool} {J : (Nat → Prop) → (Nat → Prop) → World → Prop} (hA : Asks L c test J) (hK : KInv L K) (E : Nat → Prop) (w : World) (h : GoH L c J 0 0 (visG L c.deep c.mx (L.length + 1) 0 ⟨#[47]⟩ 0).length 0 0 nn [] ab pv bv tv E w) :
    Calls Tryz.prog 25 #[.pointer (some ⟨c.b, 0, none⟩), .string ⟨#[47]⟩] w (WkPost L c test J (visG L c.deep c.mx (L.length + 1) 0 ⟨#[47]⟩ 0) 0 0 0 [] ab bv tv E w) := by
  obtain ⟨n, hn⟩ : ∃ n, L[0]? = some n := ⟨_, List.getElem?_eq_getElem hK.pos⟩
  have hd : dirD n = true := by unfold dirD; rw [(hK.root n hn).2.2]; rfl
  have c0 : w.drew.cell? ⟨c.b, 0, none⟩ = some (.slice (some ⟨c.g, 0, none⟩) L.length c.cap) := h.st.blk.cell 0
  have c1 : w.drew.cell? ⟨c.b, 1, none⟩ = some (.bool false) := h.st.blk.cell 1
  have h0 := h.below hA.stab (Below.refl _ w).drew
  have HF := hide (find_root c.B c.g c.cap L n w.drew hn hd h0.st.row h0.st.Bl)
  have HG : Hid (∀ w1, Below w.drew.heap.size w.drew w1 → Calls Tryz.prog 46 #[.pointer (some ⟨c.b, 0, none⟩), .int .i64 0, .string ⟨#[47]⟩, .int .i64 0] w1 (WkPost L c test J (visG L c.deep c.mx (L.length + 1) 0 ⟨#[47]⟩ 0) 0 0 0 [] ab bv tv E w1)) := fun w1 hb1 =>
    go_all hA hK (L.length + 1) 0 ⟨#[47]⟩ 0 n 0 0 0 nn [] ab pv bv tv E w1 (h0.below hA.stab hb1) ⟨hn, by decide, by decide, by decide, by decide⟩ (by omega)
  clear h h0 hn hd
  go_enter Tryz.func25, Tryz.ntmps25
  go_wp2_with fail
  refine (fun (KEY : ∀ w', Below w.drew.heap.size w.drew w' → (?G : World → Prop) w') => ?main) ?key
  case main =>
    go_region_with (go_at_call 43; refine HF.out.mono ?_; rintro e w6 ⟨rfl, hb6⟩)
    all_goals exact KEY _ hb6
  case key =>
    intro w1 hb1
    have HG1 := hide (HG.out w1 hb1)
    have HB1 : Hid (TurnE (DS c bv tv) E (DS c bv tv) E w w1) := withE ((TurnC.of_below (Below.refl _ w).drew).trans (TurnC.of_below hb1))
    clear hb1
    go_wp2_with fail
    refine HG1.out.mono ?_
    rintro e w4 ⟨rfl, pv4, bv4, tv4, nn4, E4, h4, j4, T4, o4, m4⟩
    have HY := hide (⟨h4, j4, T4, o4, m4⟩ : _ ∧ _ ∧ _ ∧ _ ∧ _)
    clear h4 j4 T4 o4 m4
    go_wp2
    go_end0
    obtain ⟨h4, j4, T4, o4, m4⟩ := HY.out
    exact ⟨rfl, pv4, bv4, tv4, nn4, E4, h4, j4, HB1.out.trans T4, o4, m4⟩
end Go.Proofs.YtfemboojdablhaaGreatDoor.Tre
