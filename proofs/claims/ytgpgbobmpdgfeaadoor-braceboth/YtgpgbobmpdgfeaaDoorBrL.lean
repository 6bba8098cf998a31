/- The pieces of a list, handed out one by one. -/
import Derived.Test.YtgpgbobmpdgfeaaDoorBrM
namespace Go.Proofs.YtgpgbobmpdgfeaaDoor
open Go.RowKit Go.Shelf
attribute [local go_sem] Oper.semAt_some

set_option maxRecDepth 100000 in
theorem pieces_any (s : ByteArray) (w : World) : Calls Tryd.prog 30 #[.string s] w fun e w' => e = .returned (.func (.func 39) #[] #[.pointer (some ⟨w.heap.size, 0, none⟩)]) ∧ w' = w.alloc (.cells #[.string s] 9) := by
  go_enter Tryd.func30, Tryd.ntmps30
  go_wp2
  go_ret
  exact ⟨rfl, rfl⟩
def encText (x : List UInt8) : Array Value := #[.string (bs x)]
theorem keep_not {C C' : Nat → Prop} {A A' : World} (ht : TurnC C C' A A') {b : Nat} (hb : b < A.heap.size) (h : ¬ C b) : ¬ C' b := fun q => by
  rcases ht.new b q with r | r
  · exact h r
  · omega
theorem boxed_turn {C C' : Nat → Prop} {A A' : World} (ht : TurnC C C' A A') {b : Nat} {t : TypeId} {v : Value} (hb : Boxed A b t v) (h : ¬ C b) : Boxed A' b t v := (ht.block b hb.lt h).trans hb
/-- What a yield leaves. -/
def YieldOut {α : Type} (J : List α → (Nat → Prop) → World → Prop) (Jx : (Nat → Prop) → World → Prop) (pre : List α) (x : α) (C : Nat → Prop) (A : World) (t : Bool) (C' : Nat → Prop) (A' : World) : Prop := TurnC C C' A A' ∧ ((t = true ∧ J (pre ++ [x]) C' A') ∨ (t = false ∧ Jx C' A'))
theorem yieldOut_of {α : Type} {P : Program} {l : Nat} {f : FuncId} {tmps : Array Value} {assign body : Code} {A : World} {J : List α → (Nat → Prop) → World → Prop} {Jx : (Nat → Prop) → World → Prop} {pre : List α} {x : α} {C : Nat → Prop}
    (h : RoundIn Fence.wide 0 P l f tmps assign body A fun e A' => ∃ C', TurnC C C' A A' ∧ ((e = .returned (.bool true) ∧ J (pre ++ [x]) C' A') ∨ (e = .returned (.bool false) ∧ Jx C' A'))) :
    RoundIn Fence.wide 0 P l f tmps assign body A fun e A' => ∃ t C', e = .returned (.bool t) ∧ YieldOut J Jx pre x C A t C' A' := by
  refine h.mono ?_
  rintro e A' ⟨C', ht, (⟨he, hj⟩ | ⟨he, hj⟩)⟩
  · exact ⟨true, C', he, ht, .inl ⟨rfl, hj⟩⟩
  · exact ⟨false, C', he, ht, .inr ⟨rfl, hj⟩⟩
structure PieceI (J : List (List UInt8) → (Nat → Prop) → World → Prop) (s : List UInt8) (l n0 b : Nat) (pre : List (Nat × UInt8)) (C' : Nat → Prop) (W : World) : Prop where
  h : ∃ (C : Nat → Prop) (handed : List (List UInt8)) (d : Int) (m : Nat), (∀ k, C' k ↔ (C k ∨ k = n0 + 1 ∨ k = n0 + 1 + 1)) ∧ J handed C W ∧ (∀ k, C k → k < n0 ∨ n0 + 4 ≤ k) ∧ ¬ C b ∧
    Boxed W b 9 (.string (bs s)) ∧ Boxed W n0 30 (.func (.yield l) #[] #[]) ∧ Boxed W (n0 + 1) 3 (.int .i64 d) ∧ Boxed W (n0 + 1 + 1) 3 (.int .i64 (m : Int)) ∧ -(pre.length : Int) ≤ d ∧ d ≤ (pre.length : Int) ∧ (m ≤ s.length ∧ n0 + 4 ≤ W.heap.size) ∧
    Left pre (signsD false 0 s) (fun r => handed ++ cutAtD s m (commasD d r) = piecesB s ∧ ∀ x ∈ r, m ≤ x.1)
structure PieceX (Jx : (Nat → Prop) → World → Prop) (n0 : Nat) (C' : Nat → Prop) (W : World) : Prop where
  h : ∃ (C : Nat → Prop), (∀ k, C' k ↔ (C k ∨ k = n0 + 1 ∨ k = n0 + 1 + 1)) ∧ Jx C W ∧ n0 + 1 + 1 < W.heap.size
theorem pieceI_abide {J : List (List UInt8) → (Nat → Prop) → World → Prop} {s : List UInt8} {l n0 b N : Nat} (hJ : ∀ x, Abide n0 (J x)) (hN : n0 + 3 ≤ N) (hb : b < n0) (pre : List (Nat × UInt8)) : Abide N (PieceI J s l n0 b pre) := by
  constructor
  · rintro C' A ⟨C, hd, d, m, h1, h2, h3, h4, h5, h6, h7, h8, h9⟩ k hk
    rcases (h1 k).1 hk with q | q | q
    · exact (hJ _).lt _ _ h2 k q
    · have := h7.lt; omega
    · have := h8.lt; omega
  · rintro C' A A' ⟨C, hd, d, m, h1, h2, h3, h4, h5, h6, h7, h8, h9, h10, h11, h12⟩ hk
    exact ⟨C, hd, d, m, h1, (hJ _).keep _ _ _ h2 (hk.mono (by omega) (fun k q => (h1 k).2 (.inl q))), h3, h4, boxed_keepN h5 hk (by omega), boxed_keepN h6 hk (by omega), boxed_keepN h7 hk (by omega), boxed_keepN h8 hk (by omega), h9, h10, ⟨h11.1, Nat.le_trans h11.2 hk.size⟩, h12⟩
theorem pieceX_abide {Jx : (Nat → Prop) → World → Prop} {n0 N : Nat} (hJ : Abide n0 Jx) (hN : n0 + 3 ≤ N) : Abide N (PieceX Jx n0) := by
  constructor
  · rintro C' A ⟨C, h1, h2, h3⟩ k hk
    rcases (h1 k).1 hk with q | q | q
    · exact hJ.lt _ _ h2 k q
    · omega
    · omega
  · rintro C' A A' ⟨C, h1, h2, h3⟩ hk
    exact ⟨C, h1, hJ.keep _ _ _ h2 (hk.mono (by omega) (fun k q => (h1 k).2 (.inl q))), Nat.lt_of_lt_of_le h3 hk.size⟩
theorem left_sorted {pre r : List (Nat × UInt8)} {s : List UInt8} {x : Nat × UInt8} (h : pre ++ [x] ++ r = signsD false 0 s) : ∀ y ∈ r, x.1 + 1 ≤ y.1 := by
  have hp := signs_sorted s false 0
  rw [← h, List.append_assoc, List.pairwise_append] at hp
  have := hp.2.1
  rw [List.singleton_append, List.pairwise_cons] at this
  exact this.1
/-- The rows of the region that hands out a piece, in whatever order. -/
def PieceR (s : List UInt8) (m k l : Nat) (R : Bool → World → Prop) (mk : Value → Value → Value → Value → Value → Value → Value → Array Value) (W0 : World) (listed : Array Bool) (a : Act) (w : World) : Prop :=
  ∃ x24 x25 x26 x27 x28 x29 x30, a = ⟨mk x24 x25 x26 x27 x28 x29 x30, []⟩ ∧ (fl listed 0 = true → x24 = .func (.yield l) #[] #[]) ∧ (fl listed 1 = true → x25 = .string (bs s)) ∧ (fl listed 2 = true → x26 = .int .i64 (m : Int)) ∧ (fl listed 3 = true → x27 = .int .i64 (k : Int)) ∧
    (fl listed 4 = true → x28 = .string ((bs s).extract m k)) ∧ ((fl listed 5 = false ∧ w = W0) ∨ (fl listed 5 = true ∧ ∃ t, R t w ∧ x29 = .bool t ∧ (fl listed 6 = true → x30 = .bool (!t))))
/-- The rows of the region that hands out the last piece. -/
def PieceZ (s : List UInt8) (m l : Nat) (R : Bool → World → Prop) (mk : Value → Value → Value → Value → Value → Array Value) (D : List Deferred) (W0 : World) (listed : Array Bool) (a : Act) (w : World) : Prop :=
  ∃ x33 x34 x35 x36 x37, a = ⟨mk x33 x34 x35 x36 x37, D⟩ ∧ (fl listed 0 = true → x33 = .func (.yield l) #[] #[]) ∧ (fl listed 1 = true → x34 = .string (bs s)) ∧ (fl listed 2 = true → x35 = .int .i64 (m : Int)) ∧
    (fl listed 3 = true → x36 = .string ((bs s).extract m s.length)) ∧ ((fl listed 4 = false ∧ w = W0) ∨ (fl listed 4 = true ∧ ∃ t, R t w))
set_option maxRecDepth 100000 in
set_option maxHeartbeats 4000000 in
theorem pieces_hands (b : Nat) (s : List UInt8) (hs : s.length ≤ 1000000) : Hands Tryd.prog 39 #[.pointer (some ⟨b, 0, none⟩)] encText (piecesB s) (fun C W => Boxed W b 9 (.string (bs s)) ∧ ¬ C b) := by
  intro l J Jx C W hJ hJx hY hRd h0
  obtain ⟨hb, hCb⟩ := hRd
  obtain ⟨n0, hn0⟩ : ∃ n, W.heap.size = n := ⟨_, rfl⟩
  rw [hn0] at hJ hJx
  have hbn : b < n0 := by rw [← hn0]; exact hb.lt
  have hsz := bs_size s
  have hc := hb.cell
  refine callsIn_of_wp_marks Tryd.func39 rfl trivial ?_ rfl
  simp only [Tryd.ntmps39, List.size_toArray, List.length_cons, List.length_nil, Nat.reduceAdd, Nat.reduceSub, Array.replicate_succ, Array.replicate_zero, List.push_toArray, List.append_toArray, List.nil_append, List.cons_append]
  have c1 := (boxed_below hb (lay_facts [.cells #[.func (.yield l) #[] #[]] 30, .cells #[.int .i64 0] 3, .cells #[.int .i64 0] 3] W).2.1 hb.lt).cell
  simp only [lay] at c1
  gi_wp2_with fail
  refine ⟨trivial, rfl, (callsIn_wide.2 (signs_any _ _)).mono ?_⟩
  rintro e w' ⟨rfl, hw⟩
  rw [hw]
  clear hw w' c1
  gi_wp2_with fail
  obtain ⟨w1, hw1⟩ : ∃ w1, lay W [.cells #[.func (.yield l) #[] #[]] 30, .cells #[.int .i64 0] 3, .cells #[.int .i64 0] 3, .cells #[.string (bs s)] 9] = w1 := ⟨_, rfl⟩
  obtain ⟨z1, l1, f1⟩ := lay_facts [.cells #[.func (.yield l) #[] #[]] 30, .cells #[.int .i64 0] 3, .cells #[.int .i64 0] 3, .cells #[.string (bs s)] 9] W
  rw [hw1] at z1 l1 f1
  rw [hn0] at z1 l1 f1
  simp only [lay] at hw1
  rw [hw1]
  clear hw1
  have z1 : w1.heap.size = n0 + 4 := z1
  have q0 : Boxed w1 n0 30 (.func (.yield l) #[] #[]) := f1 0 _ rfl
  have q1 : Boxed w1 (n0 + 1) 3 (.int .i64 0) := f1 1 _ rfl
  have q2 : Boxed w1 (n0 + 1 + 1) 3 (.int .i64 ((0 : Nat) : Int)) := f1 2 _ rfl
  have q3 : Boxed w1 (n0 + 1 + 1 + 1) 9 (.string (bs s)) := f1 3 _ rfl
  have qb : Boxed w1 b 9 (.string (bs s)) := boxed_below hb l1 hbn
  have hC0 := (hJ []).lt _ _ h0
  rw [hn0] at hC0
  clear f1
  have h01 : J [] C w1 := (hJ []).keep _ _ _ h0 (.of_below (by rw [hn0]; exact l1))
  clear hc h0 hb l1
  refine range_out (gf := 23) (lb := #[.pointer (some ⟨n0 + 1 + 1 + 1, 0, none⟩)]) rfl (enters_of Tryd.func23 (by kernel_rfl) rfl) (signs_hands (n0 + 1 + 1 + 1) s hs) (fun _ => rfl)
    (fun k => C k ∨ k = n0 + 1 ∨ k = n0 + 1 + 1) (PieceI J s l n0 b) (PieceX Jx n0) (fun pre => pieceI_abide hJ (by omega) hbn pre) (pieceX_abide hJx (by omega))
    ⟨C, [], 0, 0, fun _ => Iff.rfl, h01, fun k q => .inl (hC0 k q), hCb, qb, q0, q1, q2, by simp, by simp, ⟨Nat.zero_le _, by omega⟩, _, rfl, rfl, fun _ _ => Nat.zero_le _⟩ (fun W hB => ⟨boxed_below q3 hB (by omega), fun q => by
      rcases q with (q | q) | q
      · have := hC0 _ q; omega
      · omega
      · omega⟩) ?round ?done ?stop
  case round =>
    rintro l2 pre ⟨k, c⟩ C' W hl hrec hCl hpre hI
    simp only [encSign]
    gi_wp2
    refine ⟨Below.refl _ _, fun W2 hsw => ?_⟩
    obtain ⟨C, handed, d, m, h1, h2, h3, h4, h5, h6, h7, h8, h9, h10, h11, hL⟩ := (pieceI_abide hJ (N := w1.heap.size) (by omega) hbn pre).keep _ _ _ hI (hsw.keep hl hCl)
    obtain ⟨r, hr, hcut, hmr⟩ := hL.step hpre
    have hks := (signs_at s false 0 _ (mem_of_pre hpre)).2
    have hpl := len_of_pre hpre
    have hsl := signs_len s false 0
    have hkb : k < s.length := by simpa using hks
    have hmk : m ≤ k := hmr (k, c) (by simp)
    have hrs := left_sorted hr
    have hdb : -1000000 ≤ d ∧ d ≤ 1000000 := by omega
    clear hks hpl hsl hL hI hsw hrec hpre
    have q0 := h5.cell
    have q1 := h6.cell
    have c2 := h7.cell
    have q3 := h8.cell
    have g2 := h7.frozen
    have g3 := h8.frozen
    have hn1 : ¬ C (n0 + 1) := fun q => by have := h3 _ q; omega
    have hn2 : ¬ C (n0 + 1 + 1) := fun q => by have := h3 _ q; omega
    rcases sign_cases c with e1 | ⟨e1, e2⟩ | ⟨e1, e2⟩
    · have hc : c = 123 := by simpa using is123 e1
      rw [commasD, if_pos hc] at hcut
      clear hc
      have HALL := hide (And.intro h1 (And.intro h2 (And.intro h3 (And.intro h4 (And.intro h5 (And.intro h6 (And.intro h7 (And.intro h8 (And.intro h9 (And.intro h10 (And.intro h11 (And.intro hr (And.intro hcut hmr)))))))))))))
      clear h1 h2 h3 h4 h5 h6 h7 h8 h9 h10 h11 hr hcut hmr
      gi_wp2
      obtain ⟨h1, h2, h3, h4, h5, h6, h7, h8, h9, h10, h11, hr, hcut, hmr⟩ := HALL.out
      exact ⟨C', TurnC.setCell _ _ _ ((h1 _).2 (.inr (.inl rfl))), ⟨C, handed, d + 1, m, h1, (hJ _).keep _ _ _ h2 (KeepC.setCell _ _ _ (by omega) hn1), h3, h4, h5.other (by omega) _, h6.other (by omega) _, h7.set _, h8.other (by omega) _, by simp; omega, by simp; omega, ⟨h11.1, Nat.le_trans h11.2 (KeepsWalks.setCell W2 _ _).size⟩, r, hr, hcut, fun x hx => hmr x (List.mem_cons_of_mem _ hx)⟩⟩
    · have hc1 : ¬ c = 123 := by simpa using is123 e1
      have hc : c = 125 := by simpa using is125 e2
      rw [commasD, if_neg hc1, if_pos hc] at hcut
      clear hc hc1
      have HALL := hide (And.intro h1 (And.intro h2 (And.intro h3 (And.intro h4 (And.intro h5 (And.intro h6 (And.intro h7 (And.intro h8 (And.intro h9 (And.intro h10 (And.intro h11 (And.intro hr (And.intro hcut hmr)))))))))))))
      clear h1 h2 h3 h4 h5 h6 h7 h8 h9 h10 h11 hr hcut hmr
      gi_wp2
      obtain ⟨h1, h2, h3, h4, h5, h6, h7, h8, h9, h10, h11, hr, hcut, hmr⟩ := HALL.out
      exact ⟨C', TurnC.setCell _ _ _ ((h1 _).2 (.inr (.inl rfl))), ⟨C, handed, d - 1, m, h1, (hJ _).keep _ _ _ h2 (KeepC.setCell _ _ _ (by omega) hn1), h3, h4, h5.other (by omega) _, h6.other (by omega) _, h7.set _, h8.other (by omega) _, by simp; omega, by simp; omega, ⟨h11.1, Nat.le_trans h11.2 (KeepsWalks.setCell W2 _ _).size⟩, r, hr, hcut, fun x hx => hmr x (List.mem_cons_of_mem _ hx)⟩⟩
    · have hc1 : ¬ c = 123 := by simpa using is123 e1
      have hc : ¬ c = 125 := by simpa using is125 e2
      rw [commasD, if_neg hc1, if_neg hc] at hcut
      by_cases hd0 : d = 0
      · subst hd0
        rw [if_pos rfl, cutAtD] at hcut
        have h2d : J handed C W2.drew := (hJ _).keep _ _ _ h2 ⟨rfl, rfl, rfl, Nat.le_refl _, fun _ _ _ => rfl⟩
        obtain ⟨fn, tmps, assign, body, hy, hR⟩ := hY handed ((s.drop m).take (k - m)) C W2.drew ⟨_, by rw [List.append_assoc]; exact hcut⟩ h2d
        have hy : (Instr.yield l #[.string ((bs s).extract m k)]).run Tryd.prog W2.drew = .ok (.round l fn tmps assign body) W2.drew := by rw [bs_slice]; exact hy
        have hR2 := yieldOut_of hR
        have HALL := hide (And.intro h1 (And.intro h3 (And.intro h4 (And.intro h5 (And.intro h6 (And.intro h7 (And.intro h8 (And.intro h11 (And.intro hr (And.intro hcut hrs))))))))))
        have hmI : (m : Int) ≤ (k : Int) := by omega
        have hkI : (k : Int) ≤ (s.length : Int) := by omega
        have hfo : Tryd.prog.follows .mixedOrders = true := by kernel_rfl
        clear h1 h2 h2d h3 h4 h5 h6 h7 h8 h9 h10 h11 hr hcut hmr hrs hR hY hc1 hc hdb
        gi_wp2_with fail
        refine region_inv (PieceR s m k l (fun t W3 => ∃ C2, YieldOut J Jx handed ((s.drop m).take (k - m)) C W2.drew t C2 W3) (fun x24 x25 x26 x27 x28 x29 x30 => (Value.func (.yield l) #[] #[] :: Value.pointer (some ⟨b, 0, none⟩) :: Value.pointer (some ⟨n0, 0, none⟩) :: Value.pointer (some ⟨n0 + 1, 0, none⟩) :: Value.pointer (some ⟨n0 + 1 + 1, 0, none⟩) :: Value.int .i64 (k : Int) :: Value.int .u8 (c.toNat : Int) :: Value.string (bs s) :: Value.func (.func 23) #[] #[.pointer (some ⟨n0 + 1 + 1 + 1, 0, none⟩)] :: Value.int .i64 (k : Int) :: Value.int .u8 (c.toNat : Int) :: Value.bool false :: Value.int .u8 (c.toNat : Int) :: Value.bool false :: undef :: undef :: Value.bool false :: Value.int .u8 (c.toNat : Int) :: Value.bool false :: undef :: undef :: Value.bool true :: Value.int .i64 0 :: Value.bool true :: x24 :: x25 :: x26 :: x27 :: x28 :: x29 :: x30 :: undef :: undef :: undef :: undef :: undef :: undef :: undef :: [] : List Value).toArray) W2.drew) (by kernel_rfl) (by kernel_rfl) ?hend ?hstep ?hinit
        case hinit => exact ⟨undef, undef, undef, undef, undef, undef, undef, rfl, fun h => by (rw [fl_none] at h; cases h), fun h => by (rw [fl_none] at h; cases h), fun h => by (rw [fl_none] at h; cases h), fun h => by (rw [fl_none] at h; cases h), fun h => by (rw [fl_none] at h; cases h), .inl ⟨fl_none _ _, rfl⟩⟩
        case hstep =>
          intro listed a' w' i o hls hcl hI ho hnot hdep K' hK
          have hlt : i < 7 := (Array.getElem?_eq_some_iff.1 ho).1
          have p4 : fl listed 4 = true → fl listed 1 = true ∧ fl listed 2 = true ∧ fl listed 3 = true := fun h => ⟨hcl 4 _ rfl h ⟨1, .data⟩ (by simp) rfl, hcl 4 _ rfl h ⟨2, .data⟩ (by simp) rfl, hcl 4 _ rfl h ⟨3, .data⟩ (by simp) rfl⟩
          have p5 : fl listed 5 = true → fl listed 0 = true ∧ fl listed 4 = true := fun h => ⟨hcl 5 _ rfl h ⟨0, .data⟩ (by simp) rfl, hcl 5 _ rfl h ⟨4, .data⟩ (by simp) rfl⟩
          have p6 : fl listed 6 = true → fl listed 5 = true := fun h => hcl 6 _ rfl h ⟨5, .data⟩ (by simp) rfl
          have hw5 : i < 5 → fl listed 5 = false := fun h => by
            cases h5 : fl listed 5 with
            | false => rfl
            | true =>
              obtain ⟨a0, a4⟩ := p5 h5
              obtain ⟨a1, a2, a3⟩ := p4 a4
              have : i = 0 ∨ i = 1 ∨ i = 2 ∨ i = 3 ∨ i = 4 := by omega
              rcases this with rfl | rfl | rfl | rfl | rfl <;> simp_all
          obtain ⟨x24, x25, x26, x27, x28, x29, x30, rfl, c0, c1, c2, c3, c4, cw⟩ := hI
          match i, hlt with
          | 0, _ =>
            obtain rfl := Option.some.inj ho
            have h5 := hw5 (by decide)
            have hw : w' = W2.drew := by
              rcases cw with ⟨_, h⟩ | ⟨h, _⟩
              · exact h
              · rw [h5] at h; cases h
            rw [hw]
            refine st_valIn (v := .func (.yield l) #[] #[]) (w' := W2.drew) rfl (fun _ h => by cases h) ?_ (hK _ _ ⟨.func (.yield l) #[] #[], x25, x26, x27, x28, x29, x30, rfl, fun _ => rfl, fun h => c1 (by rwa [fl_ne (by decide)] at h), fun h => c2 (by rwa [fl_ne (by decide)] at h), fun h => c3 (by rwa [fl_ne (by decide)] at h), fun h => c4 (by rwa [fl_ne (by decide)] at h), .inl ⟨by rw [fl_ne (by decide)]; exact h5, rfl⟩⟩)
            simp [execOp, go_sem, Result.andThen, q1]
          | 1, _ =>
            obtain rfl := Option.some.inj ho
            have h5 := hw5 (by decide)
            have hw : w' = W2.drew := by
              rcases cw with ⟨_, h⟩ | ⟨h, _⟩
              · exact h
              · rw [h5] at h; cases h
            rw [hw]
            refine st_valIn (v := .string (bs s)) (w' := W2.drew) rfl (fun _ h => by cases h) ?_ (hK _ _ ⟨x24, .string (bs s), x26, x27, x28, x29, x30, rfl, fun h => c0 (by rwa [fl_ne (by decide)] at h), fun _ => rfl, fun h => c2 (by rwa [fl_ne (by decide)] at h), fun h => c3 (by rwa [fl_ne (by decide)] at h), fun h => c4 (by rwa [fl_ne (by decide)] at h), .inl ⟨by rw [fl_ne (by decide)]; exact h5, rfl⟩⟩)
            simp [execOp, go_sem, Result.andThen, q0]
          | 2, _ =>
            obtain rfl := Option.some.inj ho
            have h5 := hw5 (by decide)
            have hw : w' = W2.drew := by
              rcases cw with ⟨_, h⟩ | ⟨h, _⟩
              · exact h
              · rw [h5] at h; cases h
            rw [hw]
            refine st_valIn (v := .int .i64 (m : Int)) (w' := W2.drew) rfl (fun _ h => by cases h) ?_ (hK _ _ ⟨x24, x25, .int .i64 (m : Int), x27, x28, x29, x30, rfl, fun h => c0 (by rwa [fl_ne (by decide)] at h), fun h => c1 (by rwa [fl_ne (by decide)] at h), fun _ => rfl, fun h => c3 (by rwa [fl_ne (by decide)] at h), fun h => c4 (by rwa [fl_ne (by decide)] at h), .inl ⟨by rw [fl_ne (by decide)]; exact h5, rfl⟩⟩)
            simp [execOp, go_sem, Result.andThen, q3]
          | 3, _ =>
            obtain rfl := Option.some.inj ho
            have h5 := hw5 (by decide)
            have hw : w' = W2.drew := by
              rcases cw with ⟨_, h⟩ | ⟨h, _⟩
              · exact h
              · rw [h5] at h; cases h
            rw [hw]
            refine st_valIn (v := .int .i64 (k : Int)) (w' := W2.drew) rfl (fun _ h => by cases h) ?_ (hK _ _ ⟨x24, x25, x26, .int .i64 (k : Int), x28, x29, x30, rfl, fun h => c0 (by rwa [fl_ne (by decide)] at h), fun h => c1 (by rwa [fl_ne (by decide)] at h), fun h => c2 (by rwa [fl_ne (by decide)] at h), fun _ => rfl, fun h => c4 (by rwa [fl_ne (by decide)] at h), .inl ⟨by rw [fl_ne (by decide)]; exact h5, rfl⟩⟩)
            simp [execOp, go_sem]
          | 4, _ =>
            obtain rfl := Option.some.inj ho
            have ex25 := c1 (hdep ⟨1, .data⟩ (by simp) rfl)
            have ex26 := c2 (hdep ⟨2, .data⟩ (by simp) rfl)
            have ex27 := c3 (hdep ⟨3, .data⟩ (by simp) rfl)
            have h5 := hw5 (by decide)
            have hw : w' = W2.drew := by
              rcases cw with ⟨_, h⟩ | ⟨h, _⟩
              · exact h
              · rw [h5] at h; cases h
            rw [hw]
            refine st_valIn (v := .string ((bs s).extract m k)) (w' := W2.drew) rfl (fun _ h => by cases h) ?_ (hK _ _ ⟨x24, x25, x26, x27, .string ((bs s).extract m k), x29, x30, rfl, fun h => c0 (by rwa [fl_ne (by decide)] at h), fun h => c1 (by rwa [fl_ne (by decide)] at h), fun h => c2 (by rwa [fl_ne (by decide)] at h), fun h => c3 (by rwa [fl_ne (by decide)] at h), fun _ => rfl, .inl ⟨by rw [fl_ne (by decide)]; exact h5, rfl⟩⟩)
            simp [execOp, go_sem, Result.andThen, ex25, ex26, ex27, hmI, hkI, hsz]
          | 5, _ =>
            obtain rfl := Option.some.inj ho
            have ex24 := c0 (hdep ⟨0, .data⟩ (by simp) rfl)
            have ex28 := c4 (hdep ⟨4, .data⟩ (by simp) rfl)
            have hw : w' = W2.drew := by
              rcases cw with ⟨_, h⟩ | ⟨h, _⟩
              · exact h
              · rw [hnot] at h; cases h
            rw [hw]
            refine st_rndIn (l2 := l) (fn := fn) (tmps := tmps) (assign := assign) (body := body) (R := fun t W3 => ∃ C2, YieldOut J Jx handed ((s.drop m).take (k - m)) C W2.drew t C2 W3) rfl (fun _ h => by cases h) ?_ (hR2.mono ?_) ?_
            · simp [execOp, go_sem, ex24, ex28, hy]
            · rintro e A' ⟨t, C2, he, hyo⟩
              exact ⟨t, he, C2, hyo⟩
            · intro t A' hr
              refine hK _ _ ⟨x24, x25, x26, x27, x28, .bool t, x30, rfl, fun h => c0 (by rwa [fl_ne (by decide)] at h), fun h => c1 (by rwa [fl_ne (by decide)] at h), fun h => c2 (by rwa [fl_ne (by decide)] at h), fun h => c3 (by rwa [fl_ne (by decide)] at h), fun h => c4 (by rwa [fl_ne (by decide)] at h), .inr ⟨fl_self (by rw [hls]; decide), t, hr, rfl, fun h => ?_⟩⟩
              rw [fl_ne (by decide)] at h
              rw [p6 h] at hnot
              cases hnot
          | 6, _ =>
            obtain rfl := Option.some.inj ho
            have h5 : fl listed 5 = true := hdep ⟨5, .data⟩ (by simp) rfl
            rcases cw with ⟨h, _⟩ | ⟨_, t, hr, et, _⟩
            · rw [h5] at h; cases h
            · refine st_valIn (v := .bool (!t)) (w' := w') rfl (fun _ h => by cases h) ?_ (hK _ _ ⟨x24, x25, x26, x27, x28, x29, .bool (!t), rfl, fun h => c0 (by rwa [fl_ne (by decide)] at h), fun h => c1 (by rwa [fl_ne (by decide)] at h), fun h => c2 (by rwa [fl_ne (by decide)] at h), fun h => c3 (by rwa [fl_ne (by decide)] at h), fun h => c4 (by rwa [fl_ne (by decide)] at h), .inr ⟨by rw [fl_ne (by decide)]; exact h5, t, hr, et, fun _ => rfl⟩⟩)
              simp [execOp, go_sem, et]
        case hend =>
          rintro listed a' W3 hall ⟨x24, x25, x26, x27, x28, x29, x30, rfl, _, _, _, _, _, cw⟩
          rcases cw with ⟨h, _⟩ | ⟨_, t, ⟨C2, ht, hj⟩, rfl, h30⟩
          · rw [hall 5 (by decide)] at h; cases h
          rw [h30 (hall 6 (by decide))]
          clear h30 hall hy hR2
          obtain ⟨h1, h3, h4, h5, h6, h7, h8, h11, hr, hcut, hrs⟩ := HALL.out
          have g5 := boxed_turn (A := W2.drew) ht h5 h4
          have g6 := boxed_turn (A := W2.drew) ht h6 (fun q => by have := h3 _ q; omega)
          have g7 := boxed_turn (A := W2.drew) ht h7 hn1
          have g8 := boxed_turn (A := W2.drew) ht h8 hn2
          have hsz2 : W2.heap.size ≤ W3.heap.size := ht.size
          have k3 : ∀ q, C2 q → q < n0 ∨ n0 + 4 ≤ q := fun q hq => by
            rcases ht.new q hq with r | r
            · exact h3 q r
            · have r : W2.heap.size ≤ q := r
              have := h11.2
              omega
          have k4 : ¬ C2 b := keep_not (A := W2.drew) ht h5.lt h4
          have hC' : C' = fun k => C k ∨ k = n0 + 1 ∨ k = n0 + 1 + 1 := funext fun k => propext (h1 k)
          have ht2 : TurnC C' (fun k => C2 k ∨ k = n0 + 1 ∨ k = n0 + 1 + 1) W2 W3 := by
            rw [hC']
            exact TurnC.wide (A := W2) ⟨ht.os, ht.tape, ht.output, ht.size, ht.block, ht.new⟩
          have c8 := g8.cell
          have f8 := g8.frozen
          have HALL2 := hide (And.intro g5 (And.intro g6 (And.intro g7 (And.intro g8 (And.intro k3 (And.intro k4 (And.intro ht2 hj)))))))
          clear g5 g6 g7 g8 k3 k4 ht2 hj hC' ht h1 h3 h4 h5 h6 h7 h8 hr hcut hrs
          cases t
          · gi_wp2
            obtain ⟨g5, g6, g7, g8, k3, k4, ht2, hj⟩ := HALL2.out
            rcases hj with ⟨q, _⟩ | ⟨_, hj⟩
            · cases q
            · exact ⟨_, ht2, ⟨C2, fun _ => Iff.rfl, hj, by omega⟩⟩
          · gi_wp2
            obtain ⟨g5, g6, g7, g8, k3, k4, ht2, hj⟩ := HALL2.out
            obtain ⟨h1, h3, h4, h5, h6, h7, h8, h11, hr, hcut, hrs⟩ := HALL.out
            rcases hj with ⟨_, hj⟩ | ⟨q, _⟩
            · refine ⟨_, ht2.trans (TurnC.setCell _ _ _ (.inr (.inr rfl))), ⟨C2, handed ++ [(s.drop m).take (k - m)], 0, k + 1, fun _ => Iff.rfl, (hJ _).keep _ _ _ hj (KeepC.setCell _ _ _ (by omega) (fun q => by have := k3 _ q; omega)), k3, k4, g5.other (by omega) _, g6.other (by omega) _, g7.other (by omega) _, g8.set _, by simp; omega, by simp; omega, ⟨by omega, Nat.le_trans (Nat.le_trans h11.2 hsz2) (KeepsWalks.setCell W3 _ _).size⟩, r, hr, ?_, hrs⟩⟩
              rw [List.append_assoc]
              exact hcut
            · cases q
      · rw [if_neg hd0] at hcut
        have hdI : (d == 0) = false := by simpa using hd0
        have HALL := hide (And.intro h1 (And.intro h2 (And.intro h3 (And.intro h4 (And.intro h5 (And.intro h6 (And.intro h7 (And.intro h8 (And.intro h9 (And.intro h10 (And.intro h11 (And.intro hr (And.intro hcut hmr)))))))))))))
        clear h1 h2 h3 h4 h5 h6 h7 h8 h9 h10 h11 hr hcut hmr
        gi_wp2
        obtain ⟨h1, h2, h3, h4, h5, h6, h7, h8, h9, h10, h11, hr, hcut, hmr⟩ := HALL.out
        exact ⟨C', TurnC.refl _ _, ⟨C, handed, d, m, h1, h2, h3, h4, h5, h6, h7, h8, by simp; omega, by simp; omega, h11, r, hr, hcut, fun x hx => hmr x (List.mem_cons_of_mem _ hx)⟩⟩
  case done =>
    rintro C' W hz hC hI hK
    obtain ⟨C, handed, d, m, h1, h2, h3, h4, h5, h6, h7, h8, h9, h10, h11, r, hr, hcut, _⟩ := hI
    have er : r = [] := by have := congrArg List.length hr; simp at this; exact this
    rw [er, commasD, cutAtD] at hcut
    have h2d : J handed C W.drew := (hJ _).keep _ _ _ h2 ⟨rfl, rfl, rfl, Nat.le_refl _, fun _ _ _ => rfl⟩
    obtain ⟨fn, tmps, assign, body, hy, hR⟩ := hY handed (s.drop m) C W.drew ⟨[], by rw [List.append_nil]; exact hcut⟩ h2d
    have hy : (Instr.yield l #[.string ((bs s).extract m s.length)]).run Tryd.prog W.drew = .ok (.round l fn tmps assign body) W.drew := by rw [bs_drop _ _ _ (Nat.le_refl _)]; exact hy
    have hR2 := yieldOut_of hR
    have q0 := h5.cell
    have q1 := h6.cell
    have q3 := h8.cell
    have hmI : (m : Int) ≤ (s.length : Int) := by omega
    have hfo : Tryd.prog.follows .mixedOrders = true := by kernel_rfl
    have HALL := hide (And.intro hC (And.intro hK (And.intro h1 (And.intro h3 hcut))))
    clear hC hK h1 h2 h2d h3 h4 h5 h6 h7 h8 h9 h10 hr hcut hR hY
    gi_wp2_with fail
    refine region_inv (PieceZ s m l (fun t W3 => ∃ C2, YieldOut J Jx handed (s.drop m) C W.drew t C2 W3) (fun x33 x34 x35 x36 x37 => (Value.func (.yield l) #[] #[] :: Value.pointer (some ⟨b, 0, none⟩) :: Value.pointer (some ⟨n0, 0, none⟩) :: Value.pointer (some ⟨n0 + 1, 0, none⟩) :: Value.pointer (some ⟨n0 + 1 + 1, 0, none⟩) :: undef :: undef :: Value.string (bs s) :: Value.func (.func 23) #[] #[.pointer (some ⟨n0 + 1 + 1 + 1, 0, none⟩)] :: undef :: undef :: undef :: undef :: undef :: undef :: undef :: undef :: undef :: undef :: undef :: undef :: undef :: undef :: undef :: undef :: undef :: undef :: undef :: undef :: undef :: undef :: undef :: undef :: x33 :: x34 :: x35 :: x36 :: x37 :: [] : List Value).toArray) [{ target := .collected w1.heap.size, args := #[] }] W.drew) (by kernel_rfl) (by kernel_rfl) ?hend ?hstep ?hinit
    case hinit => exact ⟨undef, undef, undef, undef, undef, rfl, fun h => by (rw [fl_none] at h; cases h), fun h => by (rw [fl_none] at h; cases h), fun h => by (rw [fl_none] at h; cases h), fun h => by (rw [fl_none] at h; cases h), .inl ⟨fl_none _ _, rfl⟩⟩
    case hstep =>
      intro listed a' w' i o hls hcl hI ho hnot hdep K' hK
      have hlt : i < 5 := (Array.getElem?_eq_some_iff.1 ho).1
      have p3 : fl listed 3 = true → fl listed 1 = true ∧ fl listed 2 = true := fun h => ⟨hcl 3 _ rfl h ⟨1, .data⟩ (by simp) rfl, hcl 3 _ rfl h ⟨2, .data⟩ (by simp) rfl⟩
      have p4 : fl listed 4 = true → fl listed 0 = true ∧ fl listed 3 = true := fun h => ⟨hcl 4 _ rfl h ⟨0, .data⟩ (by simp) rfl, hcl 4 _ rfl h ⟨3, .data⟩ (by simp) rfl⟩
      have hw5 : fl listed 4 = false := by
        cases h5 : fl listed 4 with
        | false => rfl
        | true =>
          obtain ⟨a0, a3⟩ := p4 h5
          obtain ⟨a1, a2⟩ := p3 a3
          have : i = 0 ∨ i = 1 ∨ i = 2 ∨ i = 3 ∨ i = 4 := by omega
          rcases this with rfl | rfl | rfl | rfl | rfl <;> simp_all
      obtain ⟨x33, x34, x35, x36, x37, rfl, c0, c1, c2, c3, cw⟩ := hI
      have hw : w' = W.drew := by
        rcases cw with ⟨_, h⟩ | ⟨h, _⟩
        · exact h
        · rw [hw5] at h; cases h
      rw [hw]
      match i, hlt with
      | 0, _ =>
        obtain rfl := Option.some.inj ho
        refine st_valW (v := .func (.yield l) #[] #[]) (w' := W.drew) rfl ?_ (hK _ _ ⟨.func (.yield l) #[] #[], x34, x35, x36, x37, rfl, fun _ => rfl, fun h => c1 (by rwa [fl_ne (by decide)] at h), fun h => c2 (by rwa [fl_ne (by decide)] at h), fun h => c3 (by rwa [fl_ne (by decide)] at h), .inl ⟨by rw [fl_ne (by decide)]; exact hw5, rfl⟩⟩)
        simp [execOp, go_sem, Result.andThen, q1]
      | 1, _ =>
        obtain rfl := Option.some.inj ho
        refine st_valW (v := .string (bs s)) (w' := W.drew) rfl ?_ (hK _ _ ⟨x33, .string (bs s), x35, x36, x37, rfl, fun h => c0 (by rwa [fl_ne (by decide)] at h), fun _ => rfl, fun h => c2 (by rwa [fl_ne (by decide)] at h), fun h => c3 (by rwa [fl_ne (by decide)] at h), .inl ⟨by rw [fl_ne (by decide)]; exact hw5, rfl⟩⟩)
        simp [execOp, go_sem, Result.andThen, q0]
      | 2, _ =>
        obtain rfl := Option.some.inj ho
        refine st_valW (v := .int .i64 (m : Int)) (w' := W.drew) rfl ?_ (hK _ _ ⟨x33, x34, .int .i64 (m : Int), x36, x37, rfl, fun h => c0 (by rwa [fl_ne (by decide)] at h), fun h => c1 (by rwa [fl_ne (by decide)] at h), fun _ => rfl, fun h => c3 (by rwa [fl_ne (by decide)] at h), .inl ⟨by rw [fl_ne (by decide)]; exact hw5, rfl⟩⟩)
        simp [execOp, go_sem, Result.andThen, q3]
      | 3, _ =>
        obtain rfl := Option.some.inj ho
        have ex34 := c1 (hdep ⟨1, .data⟩ (by simp) rfl)
        have ex35 := c2 (hdep ⟨2, .data⟩ (by simp) rfl)
        refine st_valW (v := .string ((bs s).extract m s.length)) (w' := W.drew) rfl ?_ (hK _ _ ⟨x33, x34, x35, .string ((bs s).extract m s.length), x37, rfl, fun h => c0 (by rwa [fl_ne (by decide)] at h), fun h => c1 (by rwa [fl_ne (by decide)] at h), fun h => c2 (by rwa [fl_ne (by decide)] at h), fun _ => rfl, .inl ⟨by rw [fl_ne (by decide)]; exact hw5, rfl⟩⟩)
        simp [execOp, go_sem, Result.andThen, ex34, ex35, hmI, hsz]
      | 4, _ =>
        obtain rfl := Option.some.inj ho
        have ex33 := c0 (hdep ⟨0, .data⟩ (by simp) rfl)
        have ex36 := c3 (hdep ⟨3, .data⟩ (by simp) rfl)
        refine st_rndW (l2 := l) (fn := fn) (tmps := tmps) (assign := assign) (body := body) (R := fun t W3 => ∃ C2, YieldOut J Jx handed (s.drop m) C W.drew t C2 W3) rfl ?_ (hR2.mono ?_) ?_
        · simp [execOp, go_sem, ex33, ex36, hy]
        · rintro e A' ⟨t, C2, he, hyo⟩
          exact ⟨t, he, C2, hyo⟩
        · intro t A' hr
          exact hK _ _ ⟨x33, x34, x35, x36, .bool t, rfl, fun h => c0 (by rwa [fl_ne (by decide)] at h), fun h => c1 (by rwa [fl_ne (by decide)] at h), fun h => c2 (by rwa [fl_ne (by decide)] at h), fun h => c3 (by rwa [fl_ne (by decide)] at h), .inr ⟨fl_self (by rw [hls]; decide), t, hr⟩⟩
    case hend =>
      rintro listed a' W3 hall ⟨x33, x34, x35, x36, x37, rfl, _, _, _, _, cw⟩
      rcases cw with ⟨h, _⟩ | ⟨_, t, C2, ht, hj⟩
      · rw [hall 4 (by decide)] at h; cases h
      clear hall hy hR2
      obtain ⟨hC, hK, h1, h3, hcut⟩ := HALL.out
      have hCD : ¬ C w1.heap.size := fun q => hC ((h1 _).2 (.inl q))
      have hlt : w1.heap.size < W.heap.size := by omega
      have hK3 := (ht.block w1.heap.size hlt hCD).trans hK
      have hCD2 := keep_not (A := W.drew) ht hlt hCD
      refine leave_end hK3 (results_none rfl _ _ _) ⟨⟨_, rfl⟩, C2, ?_⟩
      rcases hj with ⟨_, hj⟩ | ⟨_, hj⟩
      · rw [hcut] at hj
        exact .inl ((hJ _).keep _ _ _ hj (KeepC.putObj _ _ (by omega) hCD2))
      · exact .inr (hJx.keep _ _ _ hj (KeepC.putObj _ _ (by omega) hCD2))
  case stop =>
    rintro C' W hz hC hI hK
    obtain ⟨C, h1, h2, h3⟩ := hI
    have hCD : ¬ C w1.heap.size := fun q => hC ((h1 _).2 (.inl q))
    gi_wp2
    exact leave_ret hK (results_none rfl _ _ _) ⟨⟨_, rfl⟩, C, .inr (hJx.keep _ _ _ h2 (KeepC.putObj _ _ (by omega) hCD))⟩
end Go.Proofs.YtgpgbobmpdgfeaaDoor
