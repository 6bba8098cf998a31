/- Expand: all the texts, or too many. -/
import Derived.Test.YtgpgbobmpdgfeaaDoorBrT
import Derived.Maps.AppendAt
namespace Go.Proofs.YtgpgbobmpdgfeaaDoor
open Go.RowKit Go.Shelf
attribute [local go_sem] Oper.semAt_some

theorem wpListIn_append_at {F : Fence} {n : Nat} {P : Program} (w : World) {ops : Array Oper} {rest : List Oper} {o : Oper} {a : Act} {Q : Exit → Act → World → Prop}
    (hg : o.guard = none) (s x : Operand) (t : TypeId) (hop : o.op = Op.call { callee := Callee.builtin Builtin.append, args := #[s, x], argTypes := #[t, t] })
    (base : Nat) (e : TypeId) (i : TypeInfo) (z : Value) (size bytes : Nat) (h1 : P.underlying t = some (.slice e)) (h2 : P.info? e = some i) (h3 : i.zero = some z) (h4 : i.size = size) (h5 : i.bytes = bytes) (h6 : z.cells.size = size) (h7 : 0 < size)
    (v : Value) (k : Nat) (xs : List Value) (hs : a.eval s = v) (hown : w.ownsRow base e size v k xs) (ad : Addr) (m c : Nat) (news : List Value) (hx : a.eval x = .slice (some ad) m c) (hn : news.length = m * size)
    (hc : ∀ j u, news[j]? = some u → w.cell? (ad.add j) = some u) (h1c : ∀ u ∈ news, u.oneCell' = true) (b1 : k + m ≤ maxLen) (b2 : (k + m) * bytes ≤ 140737488355328) (b3 : base ≤ w.heap.size)
    (hK : ∀ v' w', w'.ownsRow base e size v' (k + m) (xs ++ news) → w.grownBy w' v.ownBlock → (v'.ownBlock = v.ownBlock ∨ v'.ownBlock = some w.heap.size) → wpListIn F n P ops Q rest (a.put o.dst v') w') :
    wpListIn F n P ops Q (o :: rest) a w := by
  refine wpListIn_plain hg fun K hK' => ?_
  obtain ⟨v', w', hrun, r1, r2, _, r4⟩ := run_append_own_at (P := P) w base t o.type e i z size bytes h1 h2 h3 h4 h5 h6 h7 v k xs hown ad m c news hn hc h1c b1 b2 b3
  unfold Oper.wpIn
  refine ⟨?_, ?_⟩
  · simp [Oper.about, hop, resolve, Target.leads, Sem.run_pure]
  · rw [Oper.semAt_plain F _ _ (by rw [hop]; intro c hc'; cases hc')]
    simp [execOp, hop, resolve, invoke, builtin, hs, hx, hrun, Result.andThen]
    exact hK' _ _ (hK v' w' r1 r2 r4)
theorem ownsRow_block {w w' : World} {base : Nat} {e : TypeId} {size : Nat} {v : Value} {n : Nat} {xs : List Value} (h : w.ownsRow base e size v n xs) (hb : ∀ g, v.ownBlock = some g → g < w.heap.size → w'.heap[g]? = w.heap[g]?) : w'.ownsRow base e size v n xs := by
  refine ⟨h.1, ?_⟩
  rcases h.2 with q | ⟨g, cap, cur, e1, e2, e3, e4⟩
  · exact .inl q
  · refine .inr ⟨g, cap, cur, e1, e2, (hb g (by rw [e1]; rfl) (Array.getElem?_eq_some_iff.1 e3).1).trans e3, e4⟩
theorem ownsRow_lt {w : World} {base : Nat} {e : TypeId} {size : Nat} {v : Value} {n : Nat} {xs : List Value} (h : w.ownsRow base e size v n xs) {g : Nat} (hg : v.ownBlock = some g) : base ≤ g ∧ g < w.heap.size := by
  rcases h.2 with ⟨q, _⟩ | ⟨g', cap, cur, e1, e2, e3, e4⟩
  · rw [q] at hg; cases hg
  · rw [e1] at hg
    have : g' = g := Option.some.inj hg
    subst this
    exact ⟨e2, (Array.getElem?_eq_some_iff.1 e3).1⟩
theorem ownsRow_form {w : World} {base : Nat} {e : TypeId} {size : Nat} {v : Value} {n : Nat} {xs : List Value} (h : w.ownsRow base e size v n xs) : ∃ a c, v = .slice a n c := by
  rcases h.2 with ⟨q, rfl⟩ | ⟨g', cap, cur, e1, _⟩
  · exact ⟨_, _, q⟩
  · exact ⟨_, _, e1⟩
def strs (xs : List (List UInt8)) : List Value := xs.map fun x => Value.string (bs x)
structure ExI (w : World) (n0 : Nat) (pre : List (List UInt8)) (C : Nat → Prop) (W : World) : Prop where
  h : ∃ v, (∀ k, C k ↔ (k = n0 ∨ k = n0 + 1 ∨ k = n0 + 1 + 1 ∨ v.ownBlock = some k)) ∧ Boxed W n0 22 (.slice none 0 0) ∧ Boxed W (n0 + 1) 23 (.int .i64 0) ∧ Boxed W (n0 + 1 + 1) 22 v ∧ W.ownsRow (n0 + 4) 9 1 v pre.length (strs pre) ∧ Below n0 w W ∧ pre.length ≤ 200 ∧ n0 + 4 ≤ W.heap.size
structure ExX (w : World) (n0 : Nat) (many : Prop) (C : Nat → Prop) (W : World) : Prop where
  lt : ∀ k, C k → k < W.heap.size
  b0 : Boxed W n0 22 (.slice none 0 0)
  b1 : Boxed W (n0 + 1) 23 (.int .i64 4)
  bel : Below n0 w W
  m : many
theorem exI_abide (w : World) (n0 N : Nat) (hw : w.heap.size = n0) (hN : n0 + 4 ≤ N) (pre : List (List UInt8)) : Abide N (ExI w n0 pre) := by
  constructor
  · rintro C A ⟨v, cs, b0, b1, b2, hr, hB, hl, hz⟩ k hk
    rcases (cs k).1 hk with q | q | q | q
    · omega
    · omega
    · omega
    · exact (ownsRow_lt hr q).2
  · rintro C A A' ⟨v, cs, b0, b1, b2, hr, hB, hl, hz⟩ hk
    exact ⟨v, cs, boxed_keepN b0 hk (by omega), boxed_keepN b1 hk (by omega), boxed_keepN b2 hk (by omega), ownsRow_block hr (fun g hg hlt => hk.block g hlt (.inr ((cs g).2 (.inr (.inr (.inr hg)))))), hk.later hB (by omega) (by omega), hl, Nat.le_trans hz hk.size⟩
theorem exX_abide (w : World) (n0 N : Nat) (many : Prop) (hw : w.heap.size = n0) (hN : n0 + 4 ≤ N) : Abide N (ExX w n0 many) := by
  constructor
  · intro C A h k hk
    exact h.lt k hk
  · intro C A A' h hk
    exact ⟨fun k q => Nat.lt_of_lt_of_le (h.lt k q) hk.size, boxed_keepN h.b0 hk (by omega), boxed_keepN h.b1 hk (by omega), hk.later h.bel (by omega) (by omega), h.m⟩
theorem Tryd.info9 : (Tryd.prog.info? 9).map (fun i => (i.zero, i.size, i.bytes)) = some (some (.string ⟨#[]⟩), 1, 16) := by kernel_rfl
theorem u22 : Tryd.prog.underlying 22 = some (.slice 9) := by kernel_rfl
theorem info_parts {P : Program} {t : TypeId} {z : Option Value} {s b : Nat} (h : (P.info? t).map (fun i => (i.zero, i.size, i.bytes)) = some (z, s, b)) : ∃ i, P.info? t = some i ∧ i.zero = z ∧ i.size = s ∧ i.bytes = b := by
  cases hi : P.info? t with
  | none => rw [hi] at h; cases h
  | some i => rw [hi] at h; cases h; exact ⟨i, rfl, rfl, rfl, rfl⟩
/-- What Expand answers: the list's value, and the error. -/
def ExpV (w : World) (s : List UInt8) (e : Ending) (w' : World) : Prop := ∃ v err, e = .returned (.tuple #[v, .int .i64 err]) ∧ Below w.heap.size w w' ∧
  ((200 < s.length ∧ err = 1 ∧ v = .slice none 0 0) ∨ (s.length ≤ 200 ∧ 200 < (textsD s.length s).length ∧ err = 4 ∧ v = .slice none 0 0) ∨
   (s.length ≤ 200 ∧ (textsD s.length s).length ≤ 200 ∧ err = 0 ∧ w'.ownsRow w.heap.size 9 1 v (textsD s.length s).length (strs (textsD s.length s))))
theorem owns_down {w : World} {base base' : Nat} {e : TypeId} {size : Nat} {v : Value} {n : Nat} {xs : List Value} (h : w.ownsRow base e size v n xs) (hb : base' ≤ base) : w.ownsRow base' e size v n xs := by
  refine ⟨h.1, ?_⟩
  rcases h.2 with q | ⟨g, cap, cur, e1, e2, e3⟩
  · exact .inl q
  · exact .inr ⟨g, cap, cur, e1, Nat.le_trans hb e2, e3⟩
set_option maxRecDepth 100000 in
set_option maxHeartbeats 4000000 in
theorem expand_any (s : List UInt8) (w : World) (hG : GW w) (hbig : s.length ≤ 9223372036854775807) : Calls Tryd.prog 6 #[.string (bs s)] w (ExpV w s) := by
  obtain ⟨n0, hn0⟩ : ∃ n, w.heap.size = n := ⟨_, rfl⟩
  have hsz := bs_size s
  have hn2 : 2 ≤ n0 := by have := hG.lt; omega
  obtain ⟨i0, hi, hz0, hz1, hz2⟩ := info_parts Tryd.info9
  refine (callsIn_wide (n := 0)).1 ?_
  refine callsIn_of_wp_marks Tryd.func6 rfl trivial ?_ rfl
  simp only [Tryd.ntmps6, List.size_toArray, List.length_cons, List.length_nil, Nat.reduceAdd, Nat.reduceSub, Array.replicate_succ, Array.replicate_zero, List.push_toArray, List.append_toArray, List.nil_append, List.cons_append]
  by_cases hlong : 200 < s.length
  · have hI : (200 : Int) < (s.length : Int) := by omega
    have HN := hide (And.intro hn0 hlong)
    clear hn0
    gi_wp2
    obtain ⟨hn0, hlong⟩ := HN.out
    obtain ⟨z1, l1, f1⟩ := lay_facts [.cells #[.slice none 0 0] 22, .cells #[.int .i64 1] 23] w
    have k0 := (show Boxed _ w.heap.size 22 (.slice none 0 0) from f1 0 _ rfl).cell
    have k1 := (show Boxed _ (w.heap.size + 1) 23 (.int .i64 1) from f1 1 _ rfl).cell
    simp only [lay] at k0 k1 l1
    refine leave0 (v := .tuple #[.slice none 0 0, .int .i64 1]) ?_ ⟨_, _, rfl, l1, .inl ⟨hlong, rfl, rfl⟩⟩
    simp [results, Tryd.results6, go_sem, k0, k1]
  · have hI : ¬ ((200 : Int) < (s.length : Int)) := by omega
    gi_wp2_with fail
    refine ⟨trivial, rfl, (callsIn_wide.2 (texts_any _ _)).mono ?_⟩
    rintro e w' ⟨rfl, hw⟩
    rw [hw]
    clear hw w'
    gi_wp2_with fail
    obtain ⟨w1, hw1⟩ : ∃ w1, lay w [.cells #[.slice none 0 0] 22, .cells #[.int .i64 0] 23, .cells #[.slice none 0 0] 22, .cells #[.string (bs s)] 9] = w1 := ⟨_, rfl⟩
    obtain ⟨z1, l1, f1⟩ := lay_facts [.cells #[.slice none 0 0] 22, .cells #[.int .i64 0] 23, .cells #[.slice none 0 0] 22, .cells #[.string (bs s)] 9] w
    rw [hw1] at z1 l1 f1
    rw [hn0] at z1 l1 f1
    simp only [lay] at hw1
    rw [hw1]
    clear hw1
    replace z1 : w1.heap.size = n0 + 4 := z1
    have q0 : Boxed w1 n0 22 (.slice none 0 0) := f1 0 _ rfl
    have q1 : Boxed w1 (n0 + 1) 23 (.int .i64 0) := f1 1 _ rfl
    have q2 : Boxed w1 (n0 + 1 + 1) 22 (.slice none 0 0) := f1 2 _ rfl
    have q3 : Boxed w1 (n0 + 1 + 1 + 1) 9 (.string (bs s)) := f1 3 _ rfl
    clear f1
    have hG1 := hG.below l1 hn2
    refine range_out (gf := 12) (lb := #[.pointer (some ⟨n0 + 1 + 1 + 1, 0, none⟩)]) rfl (enters_of Tryd.func12 (by kernel_rfl) rfl) (texts_hands s.length s (Nat.le_refl _) (by omega) (n0 + 1 + 1 + 1)) (fun _ => rfl)
      (fun k => k = n0 ∨ k = n0 + 1 ∨ k = n0 + 1 + 1 ∨ Value.ownBlock (.slice none 0 0) = some k) (ExI w n0) (ExX w n0 (200 < (textsD s.length s).length)) (fun pre => exI_abide w n0 _ hn0 (by omega) pre) (exX_abide w n0 _ _ hn0 (by omega))
      ⟨_, fun _ => Iff.rfl, q0, q1, q2, World.ownsRow_nil _ _ _ _, l1, Nat.zero_le _, by omega⟩ (fun W hB => ⟨boxed_below q3 hB (by omega), fun q => by
        rcases q with (q | q | q | q) | q
        · omega
        · omega
        · omega
        · cases q
        · omega, hG1.below hB (by omega), fun q => by
        rcases q with (q | q | q | q) | q
        · omega
        · omega
        · omega
        · cases q
        · omega, fun q => by
        rcases q with (q | q | q | q) | q
        · omega
        · omega
        · omega
        · cases q
        · omega⟩) ?round ?done ?stop
    case round =>
      rintro l pre x C W hl hrec hCl hpre hI
      simp only [encText]
      gi_wp2
      refine ⟨Below.refl _ _, fun W2 hsw => ?_⟩
      obtain ⟨v, cs, b0, b1, b2, hr, hB, hlen, hz⟩ := (exI_abide w n0 w1.heap.size hn0 (by omega) pre).keep _ _ _ hI (hsw.keep hl hCl)
      have hmany := len_of_pre hpre
      obtain ⟨va, vc, rfl⟩ := ownsRow_form hr
      have c0 := b0.cell
      have c1 := b1.cell
      have c2 := b2.cell
      have g0 := b0.frozen
      have g1 := b1.frozen
      clear hI hsw hrec hpre hCl
      by_cases h200 : pre.length = 200
      · have hIb : ((pre.length : Int) == 200) = true := by rw [h200]; rfl
        have HALL := hide (And.intro cs (And.intro b0 (And.intro b1 (And.intro b2 (And.intro hr (And.intro hB (And.intro hz (And.intro hmany h200))))))))
        clear cs b0 b1 b2 hr hB hz hmany
        gi_wp2
        obtain ⟨cs, b0, b1, b2, hr, hB, hz, hmany, h200⟩ := HALL.out
        refine ⟨C, (TurnC.setCell _ _ _ ((cs _).2 (.inl rfl))).trans (TurnC.setCell _ _ _ ((cs _).2 (.inr (.inl rfl)))), ?_, (b0.set _).other (by omega) _, (b1.other (by omega) _).set _, (hB.setCell (p := ⟨n0, 0, none⟩) (Nat.le_refl _) _).setCell (p := ⟨n0 + 1, 0, none⟩) (by show n0 ≤ n0 + 1; omega) _, by omega⟩
        intro k hk
        have h1 := (KeepsWalks.setCell W2 ⟨n0, 0, none⟩ (.slice none 0 0)).size
        have h2 := (KeepsWalks.setCell (W2.setCell ⟨n0, 0, none⟩ (.slice none 0 0)) ⟨n0 + 1, 0, none⟩ (.int .i64 4)).size
        refine Nat.lt_of_lt_of_le ?_ (Nat.le_trans h1 h2)
        rcases (cs k).1 hk with q | q | q | q
        · omega
        · omega
        · omega
        · exact (ownsRow_lt hr q).2
      · have hIb : ((pre.length : Int) == 200) = false := by rw [beq_eq_false_iff_ne]; omega
        have hn9 : some (n0 + 1 + 1) ≠ (Value.slice va pre.length vc).ownBlock := b2.not_row (by decide) hr
        have hrA := hr.alloc (.cells #[.string (bs x)] 9)
        have b2A := b2.alloc (.cells #[.string (bs x)] 9)
        have HALL := hide (And.intro cs (And.intro b0 (And.intro b1 (And.intro b2 (And.intro hr (And.intro hB (And.intro hz (And.intro hmany h200))))))))
        clear cs b0 b1 b2 hr hB hmany c0 c1 g0 g1
        gi_wp2_with (gi_at_builtin; refine wpListIn_append_at _ rfl _ _ 22 rfl (n0 + 4) 9 i0 (.string ⟨#[]⟩) 1 16 u22 hi hz0 hz1 hz2 rfl (by decide) _ _ _ rfl hrA ⟨W2.heap.size, 0, none⟩ 1 1 [.string (bs x)] rfl rfl (cell_one_new _ _ _) (by simp [Value.oneCell']) (by unfold maxLen; omega) (by omega) (by simp; omega) ?_; intro v' w2 hown' hgrow hblk; obtain ⟨g', cap', rfl⟩ := ownsRow_succ hown'; have hb2 := b2A.kept hgrow hn9; have hc2 := hb2.cell; have hf2 := hb2.frozen)
        obtain ⟨cs, b0, b1, b2, hr, hB, hz, hmany, h200⟩ := HALL.out
        have hne : ∀ k, k < n0 + 4 → some k ≠ Value.ownBlock (.slice va pre.length vc) := fun k hk q => by have := (ownsRow_lt hr q.symm).1; omega
        have hgn : n0 + 4 ≤ g' := (ownsRow_lt hown' (g := g') rfl).1
        have hgz := hgrow.size
        rw [World.size_alloc] at hgz
        have tt : TurnC C (fun k => k = n0 ∨ k = n0 + 1 ∨ k = n0 + 1 + 1 ∨ Value.ownBlock (.slice (some ⟨g', 0, none⟩) (pre.length + 1) cap') = some k) W2 w2 := by
          refine ⟨hgrow.os, hgrow.tape, hgrow.output, by omega, fun k hk hc => ?_, fun k hk => ?_⟩
          · exact (hgrow.block k (by rw [World.size_alloc]; omega) (fun q => hc ((cs k).2 (.inr (.inr (.inr q.symm)))))).trans (Below.heap_alloc _ _ _ hk)
          · rcases hk with q | q | q | q
            · exact .inl ((cs k).2 (.inl q))
            · exact .inl ((cs k).2 (.inr (.inl q)))
            · exact .inl ((cs k).2 (.inr (.inr (.inl q))))
            · rcases hblk with e | e
              · exact .inl ((cs k).2 (.inr (.inr (.inr (e.symm.trans q)))))
              · rw [World.size_alloc] at e
                have := Option.some.inj (q.symm.trans e)
                exact .inr (by omega)
        have bel2 : Below n0 W2 w2 := ((Below.refl n0 W2).alloc (by omega) _).grown hgrow (by simp; omega) (fun k e => by
          rcases Nat.lt_or_ge k n0 with q | q
          · exact absurd e.symm (hne k (by omega))
          · exact q)
        refine ⟨_, tt.trans (TurnC.setCell _ _ _ (.inr (.inr (.inl rfl)))), _, fun _ => Iff.rfl, ((b0.alloc _).kept hgrow (hne _ (by omega))).other (by omega) _, ((b1.alloc _).kept hgrow (hne _ (by omega))).other (by omega) _, hb2.set _, ?_, (hB.trans bel2).setCell (p := ⟨n0 + 1 + 1, 0, none⟩) (by show n0 ≤ n0 + 1 + 1; omega) _, by rw [List.length_append, List.length_singleton]; omega, ?_⟩
        · rw [List.length_append, List.length_singleton, show strs (pre ++ [x]) = strs pre ++ [.string (bs x)] from List.map_append]
          exact ownsRow_block hown' (fun g hg _ => Below.heap_setCell _ _ _ g (by have : g' = g := Option.some.inj hg; show g ≠ n0 + 1 + 1; omega))
        · exact Nat.le_trans (by omega) (KeepsWalks.setCell w2 _ _).size
    case done =>
      rintro C W hz hC hI hK
      obtain ⟨v, cs, b0, b1, b2, hr, hB, hlen, hzz⟩ := hI
      obtain ⟨va, vc, rfl⟩ := ownsRow_form hr
      have c0 := b0.cell
      have c1 := b1.cell
      have c2 := b2.cell
      have g0 := b0.frozen
      have g1 := b1.frozen
      have HALL := hide (And.intro cs (And.intro b0 (And.intro b1 (And.intro b2 (And.intro hr (And.intro hB (And.intro hzz (And.intro hK (And.intro z1 (And.intro hn0 hC))))))))))
      clear cs b0 b1 b2 hr hB hzz hK z1 hn0 hC
      gi_wp2
      obtain ⟨cs, b0, b1, b2, hr, hB, hzz, hK, z1, hn0, hC⟩ := HALL.out
      have hbl : Value.ownBlock (.slice va (textsD s.length s).length vc) ≠ some w1.heap.size := fun q => hC ((cs _).2 (.inr (.inr (.inr q))))
      have hbn : ∀ k, k < n0 + 4 → Value.ownBlock (.slice va (textsD s.length s).length vc) ≠ some k := fun k hk q => by have := (ownsRow_lt hr q).1; omega
      have k0 := (boxed_put (o := .deferred none) (D := w1.heap.size) ((b0.set (.slice va (textsD s.length s).length vc)).other (B' := n0 + 1) (by omega) (.int .i64 0)) (by omega)).cell
      have k1 := (boxed_put (o := .deferred none) (D := w1.heap.size) ((b1.other (B' := n0) (by omega) (.slice va (textsD s.length s).length vc)).set (.int .i64 0)) (by omega)).cell
      refine leave_ret (v := .tuple #[.slice va (textsD s.length s).length vc, .int .i64 0]) (def_set (def_set hK (by omega)) (by omega)) ?_ ⟨_, _, rfl, ?_, .inr (.inr ⟨by omega, hlen, rfl, ?_⟩)⟩
      · simp [results, Tryd.results6, go_sem, k0, k1]
      · rw [hn0]
        exact below_put ((hB.setCell (p := ⟨n0, 0, none⟩) (Nat.le_refl _) _).setCell (p := ⟨n0 + 1, 0, none⟩) (by show n0 ≤ n0 + 1; omega) _) (by omega)
      · rw [hn0]
        refine owns_down (ownsRow_block hr (fun g hg _ => ?_)) (by omega)
        have e1 : g ≠ w1.heap.size := fun e => hbl (by rw [hg, e])
        have e2 : g ≠ n0 := fun e => hbn n0 (by omega) (by rw [hg, e])
        have e3 : g ≠ n0 + 1 := fun e => hbn (n0 + 1) (by omega) (by rw [hg, e])
        rw [World.putObj_heap_other e1, Below.heap_setCell _ _ _ g e3, Below.heap_setCell _ _ _ g e2]
    case stop =>
      rintro C W hz hC hI hK
      have k0 := (boxed_put (o := .deferred none) (D := w1.heap.size) hI.b0 (by omega)).cell
      have k1 := (boxed_put (o := .deferred none) (D := w1.heap.size) hI.b1 (by omega)).cell
      gi_wp2
      refine leave_ret (v := .tuple #[.slice none 0 0, .int .i64 4]) hK ?_ ⟨_, _, rfl, ?_, .inr (.inl ⟨by omega, hI.m, rfl, rfl⟩)⟩
      · simp [results, Tryd.results6, go_sem, k0, k1]
      · rw [hn0]
        exact below_put hI.bel (by omega)
end Go.Proofs.YtgpgbobmpdgfeaaDoor
