/- A text's texts, handed out one by one. -/
import Derived.Test.YtgpgbobmpdgfeaaDoorBrQ
import Derived.Test.YtgpgbobmpdgfeaaDoorBrR
namespace Go.Proofs.YtgpgbobmpdgfeaaDoor
open Go.RowKit Go.Shelf
attribute [local go_sem] Oper.semAt_some

/-- What is between a group's braces hands out xs. -/
def MidHands (m : MidD) (xs : List (List UInt8)) : Prop := ∀ (D : Nat → Prop) (inner : List UInt8) (v : Value) (W0 : World), MidAt D inner m v W0 → ∃ (gf : Nat) (lb : Array Value) (Rd : (Nat → Prop) → World → Prop), v = .func (.func gf) #[] lb ∧
  (∀ args w, (callFunc gf args).run Tryd.prog w = .ok (.enter gf args) w) ∧ Hands Tryd.prog gf lb encText xs Rd ∧ ∀ C W, MidAt D inner m v W → GW W → (∀ k, D k → ¬ C k) → ¬ C 0 → ¬ C 1 → Rd C W
theorem midHands_row (a b : Int) (l : Bool) : MidHands (.row a b l) ((numsD a b).map (rowTextD l)) := by
  rintro D inner v W0 ⟨f1, f2, f3, f4, hv, hR, d1, d2, d3, d4, ha, hb, hl⟩
  refine ⟨44, _, _, hv, enters_of Tryd.func44 (by kernel_rfl) rfl, row_hands a b l f1 f2 f3 f4 hl ha hb, ?_⟩
  rintro C W ⟨g1, g2, g3, g4, hv2, hR2, _⟩ hG hD h0 h1
  rw [hv] at hv2
  cases hv2
  exact ⟨hR2, hG, hD _ d1, hD _ d2, hD _ d3, hD _ d4, h0, h1⟩
theorem midHands_list (ps : List (List UInt8)) (rest : List UInt8 → List (List UInt8)) (hrest : ∀ p ∈ ps, ∀ b', Hands Tryd.prog 12 #[.pointer (some ⟨b', 0, none⟩)] encText (rest p) (TextRd b' p)) : MidHands (.list ps) (ps.flatMap rest) := by
  rintro D inner v W0 ⟨b, hv, hB, hD0, rfl, hlen⟩
  refine ⟨31, _, _, hv, enters_of Tryd.func31 (by kernel_rfl) rfl, list_hands inner hlen rest hrest b, ?_⟩
  rintro C W ⟨b2, hv2, hB2, _⟩ hG hD h0 h1
  rw [hv] at hv2
  cases hv2
  exact ⟨hB2, hD _ hD0, hG, h0, h1⟩
structure TxtI (J : List (List UInt8) → (Nat → Prop) → World → Prop) (dn : List (List UInt8)) (ahead behind : List UInt8) (v : Value) (l n0 n2 : Nat) (C : Nat → Prop) (W : World) : Prop where
  j : J dn C W
  cs : ∀ k, C k → k < n0 ∨ n2 + 1 ≤ k
  n0' : ¬ C 0
  n1 : ¬ C 1
  by' : Boxed W n0 30 (.func (.yield l) #[] #[])
  grp : Grp W n2 (.string (bs ahead)) (.string (bs behind)) v
  g : GW W
  size : n2 + 1 ≤ W.heap.size
theorem txtI_keep {J : List (List UInt8) → (Nat → Prop) → World → Prop} {dn : List (List UInt8)} {ahead behind : List UInt8} {v : Value} {l n0 n2 N : Nat} (hJ : ∀ x, Abide n0 (J x)) (h02 : n0 < n2) (hN : n2 + 1 ≤ N) (h2 : 2 ≤ n0) {C : Nat → Prop} {A A' : World} (h : TxtI J dn ahead behind v l n0 n2 C A) (hk : KeepC N C A A') : TxtI J dn ahead behind v l n0 n2 C A' :=
  ⟨(hJ _).keep _ _ _ h.j (hk.mono (by omega) (fun _ q => q)), h.cs, h.n0', h.n1, boxed_keepN h.by' hk (by omega), (hk.block _ h.grp.lt (.inl (by omega))).trans h.grp, h.g.keepN hk (by omega), Nat.le_trans h.size hk.size⟩
theorem txtI_turn {J : List (List UInt8) → (Nat → Prop) → World → Prop} {dn dn2 : List (List UInt8)} {ahead behind : List UInt8} {v : Value} {l n0 n2 : Nat} (h02 : n0 < n2) {C C' : Nat → Prop} {A A' : World} (h : TxtI J dn ahead behind v l n0 n2 C A) (ht : TurnC C C' A A') (hj : J dn2 C' A') : TxtI J dn2 ahead behind v l n0 n2 C' A' :=
  ⟨hj, fun k hk => by
    rcases ht.new k hk with q | q
    · exact h.cs k q
    · have := h.size; omega, keep_not ht (by have := h.g.lt; omega) h.n0', keep_not ht h.g.lt h.n1, boxed_turn ht h.by' (fun q => by have := h.cs _ q; omega), (ht.block _ h.grp.lt (fun q => by have := h.cs _ q; omega)).trans h.grp, h.g.turn ht h.n0' h.n1, Nat.le_trans h.size ht.size⟩
theorem leave0 {P : Program} {fn : Func} {R : Ending → World → Prop} {tmps : Array Value} {n : Nat} {W : World} {v : Value} (hr : (results fn tmps).run P W = .ok v W) (hR : R (.returned v) W) :
    bodyPostM Fence.wide n P fn R .ret { tmps := tmps, defers := [] } W := ⟨v, hr, hR⟩
theorem bs_add (a b : List UInt8) : bs a ++ bs b = bs (a ++ b) := by
  have e : (bs a ++ bs b).data.toList = (bs (a ++ b)).data.toList := by
    rw [ByteArray.data_append]
    simp [bs]
  exact ByteArray.ext (Array.toList_inj.1 e)
def restF (ahead : List UInt8) (rest : List (List UInt8)) (one : List UInt8) : List (List UInt8) := rest.map fun r => ahead ++ one ++ r
set_option maxRecDepth 100000 in
set_option maxHeartbeats 8000000 in
theorem texts_none (s : List UInt8) (hs : s.length ≤ 1000000) (hf : firstD s = none) (b : Nat) : Hands Tryd.prog 12 #[.pointer (some ⟨b, 0, none⟩)] encText [s] (TextRd b s) := by
  intro l J Jx C W hJ hJx hY hRd h0
  obtain ⟨hb, hCb, hG, hC0, hC1⟩ := hRd
  obtain ⟨n0, hn0⟩ : ∃ n, W.heap.size = n := ⟨_, rfl⟩
  rw [hn0] at hJ hJx
  have hbn : b < n0 := by rw [← hn0]; exact hb.lt
  have hn2 : 2 ≤ n0 := by have := hG.lt; omega
  obtain ⟨w1, hw1⟩ : ∃ w1, W.alloc (.cells #[.func (.yield l) #[] #[]] 30) = w1 := ⟨_, rfl⟩
  have l1 : Below n0 W w1 := by rw [← hw1, ← hn0]; exact (Below.refl _ _).alloc (Nat.le_refl _) _
  have z1 : w1.heap.size = n0 + 1 := by rw [← hw1]; simp [hn0]
  have q0 : Boxed w1 n0 30 (.func (.yield l) #[] #[]) := by rw [← hw1, ← hn0]; exact Boxed.new _ _ _
  have c1 := (boxed_below hb l1 hbn).cell
  have hfg := firstGroup_any s hs w1 (hG.below l1 hn2)
  rw [hf] at hfg
  refine callsIn_of_wp_marks Tryd.func12 rfl trivial ?_ rfl
  simp only [Tryd.ntmps12, List.size_toArray, List.length_cons, List.length_nil, Nat.reduceAdd, Nat.reduceSub, Array.replicate_succ, Array.replicate_zero, List.push_toArray, List.append_toArray, List.nil_append, List.cons_append]
  gi_wp2_with fail
  refine ⟨trivial, rfl, (callsIn_wide.2 hfg).mono ?_⟩
  rintro e w2 ⟨he, hB2⟩
  have he : e = .returned (.tuple #[.agg #[.string ⟨#[]⟩, .string ⟨#[]⟩, .nilFunc], .bool false]) := he
  rw [he]
  have hs2 := hB2.size
  have l3 : Below w2.heap.size w2 (w2.alloc (.cells #[.string ⟨#[]⟩, .string ⟨#[]⟩, .nilFunc] 38)) := (Below.refl _ _).alloc (Nat.le_refl _) _
  have l03 : Below n0 W (w2.alloc (.cells #[.string ⟨#[]⟩, .string ⟨#[]⟩, .nilFunc] 38)) := l1.trans ((hB2.mono (by omega)).trans (l3.mono (by omega)))
  have cs3 := (boxed_below hb l03 hbn).cell
  have cy3 := (boxed_below (boxed_below q0 hB2 (by omega)) l3 (by omega)).cell
  obtain ⟨fn, tmps, assign, body, hy, hR⟩ := hY [] s C (w2.alloc (.cells #[.string ⟨#[]⟩, .string ⟨#[]⟩, .nilFunc] 38)) ⟨[], rfl⟩ ((hJ []).keep _ _ _ h0 (.of_below (by rw [hn0]; exact l03)))
  have hy : (Instr.yield l #[.string (bs s)]).run Tryd.prog (w2.alloc (.cells #[.string ⟨#[]⟩, .string ⟨#[]⟩, .nilFunc] 38)) = .ok (.round l fn tmps assign body) (w2.alloc (.cells #[.string ⟨#[]⟩, .string ⟨#[]⟩, .nilFunc] 38)) := hy
  have HN := hide hn0
  clear he hfg hB2 l1 z1 q0 l3 l03 hY hn0 c1 hb hG hw1
  gi_wp2_with fail
  refine ⟨rfl, hR.mono ?_⟩
  rintro e A3 ⟨C4, ht, (⟨rfl, hj⟩ | ⟨rfl, hj⟩)⟩
  · clear hy hR
    gi_wp2
    exact leave0 (results_none rfl _ _ _) ⟨⟨_, rfl⟩, C4, .inl hj⟩
  · clear hy hR
    gi_wp2
    exact leave0 (results_none rfl _ _ _) ⟨⟨_, rfl⟩, C4, .inr hj⟩
theorem restF_prefix {ahead one : List UInt8} {rest pre2 : List (List UInt8)} {x2 : List UInt8} (h : pre2 ++ [x2] <+: rest) : restF ahead pre2 one ++ [ahead ++ one ++ x2] <+: restF ahead rest one := by
  have := h.map (fun r => ahead ++ one ++ r)
  rw [List.map_append] at this
  exact this
set_option maxRecDepth 100000 in
set_option maxHeartbeats 8000000 in
theorem texts_some (s ahead behind : List UInt8) (m : MidD) (hs : s.length ≤ 1000000) (hf : firstD s = some (ahead, m, behind)) (mids rest : List (List UInt8)) (hM : MidHands m mids) (hab : ahead.length ≤ 1000000000) (hmb : ∀ x ∈ mids, x.length ≤ 1000000000) (hrb : ∀ x ∈ rest, x.length ≤ 1000000000)
    (hB : ∀ b', Hands Tryd.prog 12 #[.pointer (some ⟨b', 0, none⟩)] encText rest (TextRd b' behind)) (b : Nat) :
    Hands Tryd.prog 12 #[.pointer (some ⟨b, 0, none⟩)] encText (mids.flatMap (restF ahead rest)) (TextRd b s) := by
  intro l J Jx C W hJ hJx hY hRd h0
  obtain ⟨hb, hCb, hG, hC0, hC1⟩ := hRd
  obtain ⟨n0, hn0⟩ : ∃ n, W.heap.size = n := ⟨_, rfl⟩
  rw [hn0] at hJ hJx
  have hbn : b < n0 := by rw [← hn0]; exact hb.lt
  have hn2 : 2 ≤ n0 := by have := hG.lt; omega
  have hCl := (hJ []).lt _ _ h0
  rw [hn0] at hCl
  obtain ⟨w1, hw1⟩ : ∃ w1, W.alloc (.cells #[.func (.yield l) #[] #[]] 30) = w1 := ⟨_, rfl⟩
  have l1 : Below n0 W w1 := by rw [← hw1, ← hn0]; exact (Below.refl _ _).alloc (Nat.le_refl _) _
  have z1 : w1.heap.size = n0 + 1 := by rw [← hw1]; simp [hn0]
  have q0 : Boxed w1 n0 30 (.func (.yield l) #[] #[]) := by rw [← hw1, ← hn0]; exact Boxed.new _ _ _
  have c1 := (boxed_below hb l1 hbn).cell
  have hfg := firstGroup_any s hs w1 (hG.below l1 hn2)
  rw [hf] at hfg
  refine callsIn_of_wp_marks Tryd.func12 rfl trivial ?_ rfl
  simp only [Tryd.ntmps12, List.size_toArray, List.length_cons, List.length_nil, Nat.reduceAdd, Nat.reduceSub, Array.replicate_succ, Array.replicate_zero, List.push_toArray, List.append_toArray, List.nil_append, List.cons_append]
  gi_wp2_with fail
  refine ⟨trivial, rfl, (callsIn_wide.2 hfg).mono ?_⟩
  rintro e w2 ⟨he, hB2⟩
  obtain ⟨inner, v, he, hat⟩ := he
  obtain ⟨gf, lb, Rd, hv, hen, hH, hRd⟩ := hM _ inner v w2 (hat.mono (D' := fun k => n0 < k ∧ k < w2.heap.size) (fun k d hlt => ⟨by omega, hlt⟩))
  subst hv
  rw [he]
  have hat2 := hat.mono (D' := fun k => n0 < k ∧ k < w2.heap.size) (fun k d hlt => ⟨by omega, hlt⟩)
  have hs2 := hB2.size
  obtain ⟨n2, hn2'⟩ : ∃ n2, w2.heap.size = n2 := ⟨_, rfl⟩
  rw [hn2'] at hs2 hat2 hRd
  have HALL := hide (And.intro hB2 (And.intro l1 (And.intro z1 (And.intro q0 (And.intro hat2 (And.intro hn0 (And.intro h0 (And.intro hG (And.intro hb hn2')))))))))
  clear he hfg hB2 l1 z1 q0 hat hat2 c1 hb hG hw1 h0 hn0
  gi_wp2_with fail
  obtain ⟨hB2, l1, z1, q0, hat2, hn0, h0, hG, hb, hn2'⟩ := HALL.out
  obtain ⟨w3, hw3⟩ : ∃ w3, w2.alloc (.cells #[.string (bs ahead), .string (bs behind), .func (.func gf) #[] lb] 38) = w3 := ⟨_, rfl⟩
  have l3 : Below n2 w2 w3 := by rw [← hw3, ← hn2']; exact (Below.refl _ _).alloc (Nat.le_refl _) _
  have z3 : w3.heap.size = n2 + 1 := by rw [← hw3]; simp [hn2']
  have g3 : Grp w3 n2 (.string (bs ahead)) (.string (bs behind)) (.func (.func gf) #[] lb) := by rw [← hw3, ← hn2']; exact World.alloc_heap_new _ _
  rw [hw3]
  clear hw3 HALL
  have h02 : n0 < n2 := by omega
  have l03 : Below n0 W w3 := l1.trans ((hB2.mono (by omega)).trans (l3.mono (by omega)))
  have q3 : Boxed w3 n0 30 (.func (.yield l) #[] #[]) := boxed_below (boxed_below q0 hB2 (by omega)) l3 (by omega)
  have hG3 := hG.below l03 hn2
  have hj3 : J [] C w3 := (hJ []).keep _ _ _ h0 (.of_below (by rw [hn0]; exact l03))
  have hat3 : MidAt (fun k => n0 < k ∧ k < n2) inner m (.func (.func gf) #[] lb) w3 := hat2.keep (fun k d _ => l3.block k d.2)
  clear hB2 l1 z1 q0 hat2 h0 hG hb l03 hn0 hs2 w1 hn2' l3
  refine range_out (gf := gf) (lb := lb) rfl hen hH (fun _ => rfl)
    C (fun pre C W => TxtI J (pre.flatMap (restF ahead rest)) ahead behind (.func (.func gf) #[] lb) l n0 n2 C W) Jx (fun pre => ⟨fun _ _ h => (hJ _).lt _ _ h.j, fun _ _ _ h hk => txtI_keep hJ h02 (by omega) hn2 h hk⟩) (keep_abide hJx (by omega))
    ⟨hj3, fun k q => .inl (hCl k q), hC0, hC1, q3, g3, hG3, by omega⟩ (fun W hB => hRd _ W (hat3.keep (fun k d _ => hB.block k (by have := d.2; omega))) (hG3.below hB (by omega)) (fun k d q => by
      rcases q with q | q
      · have := hCl _ q; have := d.1; omega
      · have := d.2; omega) (fun q => by
      rcases q with q | q
      · exact hC0 q
      · omega) (fun q => by
      rcases q with q | q
      · exact hC1 q
      · omega)) ?round ?done ?stop
  case round =>
    clear hCb hC0 hC1 hj3 hG3 q3 g3 hCl hat3 hRd hH hM
    rintro l2 pre x C W hl hrec hCl2 hpre hI
    simp only [encText]
    have hlt2 := (hJ _).lt _ _ hI.j
    gi_wp2
    obtain ⟨ob, hob⟩ : ∃ ob, W.heap.size = ob := ⟨_, rfl⟩
    have hBa : Below W.heap.size W (W.alloc (.cells #[.string (bs x)] 9)) := (Below.refl _ _).alloc (Nat.le_refl _) _
    have hbo : Boxed (W.alloc (.cells #[.string (bs x)] 9)) ob 9 (.string (bs x)) := by rw [← hob]; exact Boxed.new _ _ _
    refine ⟨hBa, fun W2 hsw => ?_⟩
    rw [hob]
    rw [hob] at hlt2
    have hlrec : l2 < ob := by obtain ⟨r, h⟩ := hrec; rw [← hob]; exact (Array.getElem?_eq_some_iff.1 h).1
    have hka := hsw.keep (N := w3.heap.size) hl hCl2
    have hI2 := txtI_keep hJ (N := w3.heap.size) h02 (by omega) hn2 (txtI_keep hJ (N := w3.heap.size) h02 (by omega) hn2 hI (.of_below hBa)) hka
    have hbo2 : Boxed W2 ob 9 (.string (bs x)) := (hsw.block ob (by omega)).trans hbo
    have hnob : ¬ C ob := fun q => by have := hlt2 _ q; omega
    obtain ⟨r₀, hr₀⟩ := hsw.record
    have hW2 : W2.heap.size = ob + 1 := by rw [hsw.size]; simp [hob]
    clear hI hsw hrec hBa hbo hka hob
    obtain ⟨d1, d2, d3⟩ := hI2.grp.cell
    gi_wp2_with fail
    refine ⟨trivial, rfl, CallsIn.mono (CallsIn.inRound l2 (callsIn_wide.2 (texts_any _ _))) ?_⟩
    rintro e w' ⟨rfl, hw⟩
    rw [hw]
    clear hw w'
    gi_wp2_with fail
    obtain ⟨W3, hW3⟩ : ∃ W3, W2.alloc (.cells #[.string (bs behind)] 9) = W3 := ⟨_, rfl⟩
    have hB3 : Below (ob + 1) W2 W3 := by rw [← hW3]; exact (Below.refl _ _).alloc (by omega) _
    have hz3 : W3.heap.size = ob + 1 + 1 := by rw [← hW3]; simp [hW2]
    have hbx : Boxed W3 (ob + 1) 9 (.string (bs behind)) := by rw [← hW3, ← hW2]; exact Boxed.new _ _ _
    rw [hW3]
    clear hW3
    have hI3 := txtI_keep hJ (N := ob + 1) h02 (by have := hI2.size; omega) hn2 hI2 (.of_below (by rw [hW2]; exact hB3))
    have hs2 := hI2.size
    refine range_in (gf := 12) (lb := #[.pointer (some ⟨ob + 1, 0, none⟩)]) ((hB3.block _ (by omega)).trans hr₀) rfl (enters_of Tryd.func12 (by kernel_rfl) rfl) (hB (ob + 1)) (fun _ => rfl)
      C (fun pre2 C' A => (TxtI J (pre.flatMap (restF ahead rest) ++ restF ahead pre2 x) ahead behind (.func (.func gf) #[] lb) l n0 n2 C' A ∧ (Boxed A ob 9 (.string (bs x)) ∧ ¬ C' ob)) ∧ TurnC C C' W2 A) (fun C' A => Jx C' A ∧ TurnC C C' W2 A)
      (fun pre2 => and_turn_abide ⟨fun _ _ h => (hJ _).lt _ _ h.1.j, fun _ _ _ h hk => ⟨txtI_keep hJ h02 (by omega) hn2 h.1 hk, boxed_keepN h.2.1 hk (by omega), h.2.2⟩⟩ (by omega)) (and_turn_abide (keep_abide hJx (by omega)) (by omega))
      ⟨⟨by rw [show restF ahead [] x = [] from rfl, List.append_nil]; exact hI3, boxed_below hbo2 hB3 (by omega), hnob⟩, .of_below (by rw [hW2]; exact hB3)⟩ (fun W hB => ⟨boxed_below hbx hB (by omega), fun q => by
        rcases q with q | q
        · have := hlt2 _ q; omega
        · omega, hI3.g.below hB (by omega), fun q => by
          rcases q with q | q
          · exact hI3.n0' q
          · omega, fun q => by
          rcases q with q | q
          · exact hI3.n1 q
          · omega⟩) ?round2 ?done2 ?stop2
    case round2 =>
      clear hI2 hI3 hbx hr₀ hbo2 hnob d1 d2 d3 hlt2
      rintro l3 pre2 x2 C3 A hl3 hrec3 hCl3 hpre2 ⟨⟨hI3, hb3, hn3⟩, ht3⟩
      simp only [encText]
      gi_wp2
      refine ⟨Below.refl _ _, fun A2 hsw3 => ?_⟩
      have hk := hsw3.keep (N := W3.heap.size) hl3 hCl3
      have hI4 := txtI_keep hJ (N := W3.heap.size) h02 (by omega) hn2 hI3 hk
      have hb4 := boxed_keepN hb3 hk (by omega)
      have ht4 := ht3.keepN hk (by omega)
      have hyi := hY (pre.flatMap (restF ahead rest) ++ restF ahead pre2 x) (ahead ++ x ++ x2) C3 A2 (flat_prefix (restF ahead rest) hpre (restF_prefix hpre2)) hI4.j
      obtain ⟨fn, tmps, assign, body, hy, hR⟩ := hyi
      have hy : (Instr.yield l #[.string (bs (ahead ++ (x ++ x2)))]).run Tryd.prog A2 = .ok (.round l fn tmps assign body) A2 := by rw [← List.append_assoc]; exact hy
      have cy := hI4.by'.cell
      obtain ⟨d1, d2, d3⟩ := hI4.grp.cell
      have cb := hb4.cell
      have ha1 := bs_add ahead x
      have ha2 := bs_add (ahead ++ x) x2
      have hx1 := hmb x (mem_of_pre hpre)
      have hx2 := hrb x2 (mem_of_pre hpre2)
      have hz1 := bs_size ahead
      have hz2 := bs_size x
      have hz4 := bs_size x2
      have hz5 : (bs (ahead ++ x)).size = ahead.length + x.length := by rw [bs_size, List.length_append]
      clear hI3 ht3 hsw3 hk hrec3 hCl3 hl3 hb3
      gi_wp2_with fail
      refine ⟨rfl, RoundIn.mono (F := Fence.wide) hR ?_⟩
      rintro e A3 ⟨C4, ht, (⟨rfl, hj⟩ | ⟨rfl, hj⟩)⟩
      · have hI5 := txtI_turn h02 hI4 ht hj
        have hb5 := boxed_turn ht hb4 hn3
        have hn5 := keep_not ht hb4.lt hn3
        clear hy hR cy d1 d2 d3 cb ha1 ha2
        gi_wp2
        refine ⟨C4, ht, ⟨?_, hb5, hn5⟩, ht4.trans ht⟩
        rw [show restF ahead (pre2 ++ [x2]) x = restF ahead pre2 x ++ [ahead ++ x ++ x2] from List.map_append, ← List.append_assoc]
        exact hI5
      · clear hy hR cy d1 d2 d3 cb ha1 ha2
        gi_wp2
        exact ⟨C4, ht, hj, ht4.trans ht⟩
    case done2 =>
      rintro C3 A hz3' hC3 ⟨⟨hI4, _⟩, ht4⟩
      gi_wp2
      refine ⟨C3, ht4, ?_⟩
      show TxtI J ((pre ++ [x]).flatMap (restF ahead rest)) ahead behind (.func (.func gf) #[] lb) l n0 n2 C3 A
      rw [List.flatMap_append, List.flatMap_singleton]
      exact hI4
    case stop2 =>
      rintro C3 A hz3' hC3 ⟨hj, ht4⟩
      exact ⟨C3, ht4, hj⟩
  case done =>
    rintro C W hz hC hI hK
    have hI : TxtI J (mids.flatMap (restF ahead rest)) ahead behind (.func (.func gf) #[] lb) l n0 n2 C W := hI
    gi_wp2
    exact leave_end hK (results_none rfl _ _ _) ⟨⟨_, rfl⟩, C, .inl ((hJ _).keep _ _ _ hI.j (KeepC.putObj _ _ (by omega) hC))⟩
  case stop =>
    rintro C W hz hC hI hK
    gi_wp2
    exact leave_ret hK (results_none rfl _ _ _) ⟨⟨_, rfl⟩, C, .inr (hJx.keep _ _ _ hI (KeepC.putObj _ _ (by omega) hC))⟩
theorem enclosed_sum {x inner behind : List UInt8} (h : enclosedD x = some (inner, behind)) : inner.length + behind.length ≤ x.length ∧ x ≠ [] := by
  refine ⟨?_, (enclosed_len h).1⟩
  unfold enclosedD at h
  split at h
  · cases h
  · cases h
    rw [List.length_take, List.length_drop]
    omega
theorem first_parts (s : List UInt8) : ∀ (r : List (Nat × UInt8)) {a : List UInt8} {m : MidD} {b : List UInt8}, firstFrom s r = some (a, m, b) → ∃ inner, midD inner = some m ∧ a.length + inner.length + b.length + 1 ≤ s.length := by
  intro r
  induction r with
  | nil => intro a m b h; cases h
  | cons x r ih =>
    obtain ⟨k, c⟩ := x
    intro a m b h
    rw [firstFrom] at h
    split at h
    · split at h
      · exact ih h
      · rename_i inner behind he
        split at h
        · exact ih h
        · rename_i m' hm
          cases h
          refine ⟨inner, hm, ?_⟩
          obtain ⟨h1, h2⟩ := enclosed_sum he
          rw [List.length_drop] at h1
          have h3 : k + 1 < s.length + 1 := by
            rcases Nat.lt_or_ge (k + 1) (s.length + 1) with q | q
            · exact q
            · exact absurd (List.drop_eq_nil_of_le (by omega)) h2
          rw [List.length_take]
          omega
    · exact ih h
theorem dec_len : ∀ (k u : Nat), u < 10 ^ (k + 1) → (Lib.decDigits u).length ≤ k + 1 := by
  intro k
  induction k with
  | zero =>
    intro u h
    rw [Lib.decDigits, dif_pos (by simpa using h)]
    simp
  | succ k ih =>
    intro u h
    rw [Lib.decDigits]
    split
    · simp
    · rw [List.length_append, List.length_singleton]
      have := ih (u / 10) (by rw [Nat.pow_succ] at h; omega)
      omega
theorem row_len {l : Bool} {n : Int} (h : -1000000 ≤ n ∧ n ≤ 1000000) : (rowTextD l n).length ≤ 8 := by
  unfold rowTextD
  split
  · simp
  · unfold decB Lib.itoa
    split
    · have := dec_len 6 n.natAbs (by show n.natAbs < 10000000; omega)
      rw [List.length_cons]
      omega
    · have := dec_len 6 n.toNat (by show n.toNat < 10000000; omega)
      omega
theorem nums_mem {a b n : Int} (h : n ∈ numsD a b) : ∃ i : Nat, i ≤ (b - a).natAbs ∧ n = nthD a b i := by
  unfold numsD at h
  rw [List.mem_map] at h
  obtain ⟨i, hi, rfl⟩ := h
  rw [List.mem_range] at hi
  exact ⟨i, by omega, rfl⟩
theorem rows_len {inner : List UInt8} {a b : Int} {l : Bool} (hm : midD inner = some (.row a b l)) {t : List UInt8} (ht : t ∈ (numsD a b).map (rowTextD l)) : t.length ≤ 8 := by
  unfold midD at hm
  split at hm
  · cases hm
  · rw [Option.map_eq_some_iff] at hm
    obtain ⟨⟨x, y, z⟩, hr, he⟩ := hm
    cases he
    obtain ⟨h1, h2, _⟩ := row_bound hr
    rw [List.mem_map] at ht
    obtain ⟨n, hn, rfl⟩ := ht
    obtain ⟨i, hi, rfl⟩ := nums_mem hn
    exact row_len (nth_in hi h1 h2)
theorem mid_list {inner : List UInt8} {ps : List (List UInt8)} (hm : midD inner = some (.list ps)) : ps = piecesB inner := by
  unfold midD at hm
  split at hm
  · cases hm; rfl
  · rw [Option.map_eq_some_iff] at hm
    obtain ⟨⟨x, y, z⟩, hr, he⟩ := hm
    cases he
theorem texts_bound : ∀ (f : Nat) (s t : List UInt8), t ∈ textsD f s → t.length ≤ 8 * s.length := by
  intro f
  induction f with
  | zero =>
    intro s t h
    simp [textsD] at h
    subst h
    omega
  | succ f ih =>
    intro s t h
    rw [textsD] at h
    cases hf : firstD s with
    | none =>
      rw [hf] at h
      simp at h
      subst h
      omega
    | some z =>
      obtain ⟨ahead, m, behind⟩ := z
      rw [hf] at h
      obtain ⟨inner, hm, hlen⟩ := first_parts s _ hf
      rw [List.mem_flatMap] at h
      obtain ⟨one, ho, h⟩ := h
      rw [List.mem_map] at h
      obtain ⟨r, hr, rfl⟩ := h
      have hrb := ih behind r hr
      have hob : one.length ≤ 8 * inner.length + 8 := by
        cases m with
        | list ps =>
          have ho : one ∈ ps.flatMap (textsD f) := ho
          rw [List.mem_flatMap] at ho
          obtain ⟨p, hp, ho⟩ := ho
          have := ih p one ho
          rw [mid_list hm] at hp
          have := cutAt_len inner _ 0 p hp
          omega
        | row a b l =>
          have := rows_len hm ho
          omega
      rw [List.length_append, List.length_append]
      omega
/-- A text's closure hands out its texts. -/
theorem texts_hands : ∀ (f : Nat) (s : List UInt8), s.length ≤ f → s.length ≤ 1000000 → ∀ b, Hands Tryd.prog 12 #[.pointer (some ⟨b, 0, none⟩)] encText (textsD f s) (TextRd b s) := by
  intro f
  induction f with
  | zero =>
    intro s hs hl b
    have : s = [] := List.length_eq_zero_iff.1 (by omega)
    subst this
    exact texts_none [] (by simp) rfl b
  | succ f ih =>
    intro s hs hl b
    rw [textsD]
    cases hf : firstD s with
    | none => exact texts_none s hl hf b
    | some z =>
      obtain ⟨ahead, m, behind⟩ := z
      obtain ⟨inner, hm, hlen⟩ := first_parts s _ hf
      have hB : ∀ b', Hands Tryd.prog 12 #[.pointer (some ⟨b', 0, none⟩)] encText (textsD f behind) (TextRd b' behind) := fun b' => ih behind (by omega) (by omega) b'
      have hrb : ∀ x ∈ textsD f behind, x.length ≤ 1000000000 := fun x hx => by have := texts_bound f behind x hx; omega
      cases m with
      | list ps =>
        have hps := mid_list hm
        have hpl : ∀ p ∈ ps, p.length ≤ inner.length := fun p hp => by rw [hps] at hp; exact cutAt_len inner _ 0 p hp
        exact texts_some s ahead behind _ hl hf (ps.flatMap (textsD f)) (textsD f behind) (midHands_list ps (textsD f) (fun p hp b' => ih p (by have := hpl p hp; omega) (by have := hpl p hp; omega) b')) (by omega) (fun x hx => by
          rw [List.mem_flatMap] at hx
          obtain ⟨p, hp, hx⟩ := hx
          have := texts_bound f p x hx
          have := hpl p hp
          omega) hrb hB b
      | row x y l =>
        exact texts_some s ahead behind _ hl hf ((numsD x y).map (rowTextD l)) (textsD f behind) (midHands_row x y l) (by omega) (fun t ht => by have := rows_len hm ht; omega) hrb hB b
end Go.Proofs.YtgpgbobmpdgfeaaDoor
