/- What a brace encloses. -/
import Derived.Test.YtgpgbobmpdgfeaaDoorBrM
namespace Go.Proofs.YtgpgbobmpdgfeaaDoor
open Go.RowKit Go.Shelf
attribute [local go_sem] Oper.semAt_some

structure EncI (s : List UInt8) (w : World) (n0 : Nat) (pre : List (Nat × UInt8)) (C : Nat → Prop) (W : World) : Prop where
  cs : ∀ k, C k ↔ (k = n0 + 1 ∨ k = n0 + 1 + 1 ∨ k = n0 + 1 + 1 + 1 ∨ k = n0 + 1 + 1 + 1 + 1)
  b0 : Boxed W n0 9 (.string (bs s))
  b1 : Boxed W (n0 + 1) 9 (.string ⟨#[]⟩)
  b2 : Boxed W (n0 + 1 + 1) 9 (.string ⟨#[]⟩)
  b3 : Boxed W (n0 + 1 + 1 + 1) 4 (.bool false)
  b4 : ∃ d : Nat, Boxed W (n0 + 1 + 1 + 1 + 1) 3 (.int .i64 (d : Int)) ∧ d ≤ pre.length ∧ Left pre (signsD false 0 s) (fun r => closeD 0 (signsD false 0 s) = closeD d r)
  bel : Below n0 w W
structure EncX (s : List UInt8) (w : World) (n0 : Nat) (C : Nat → Prop) (W : World) : Prop where
  cs : ∀ k, C k ↔ (k = n0 + 1 ∨ k = n0 + 1 + 1 ∨ k = n0 + 1 + 1 + 1 ∨ k = n0 + 1 + 1 + 1 + 1)
  bx : ∃ a b, Boxed W (n0 + 1) 9 (.string (bs a)) ∧ Boxed W (n0 + 1 + 1) 9 (.string (bs b)) ∧ Boxed W (n0 + 1 + 1 + 1) 4 (.bool true) ∧ enclosedD s = some (a, b)
  b4 : n0 + 1 + 1 + 1 + 1 < W.heap.size
  bel : Below n0 w W
theorem encI_abide (s : List UInt8) (w : World) (n0 N : Nat) (hw : w.heap.size = n0) (hN : n0 + 5 ≤ N) (pre : List (Nat × UInt8)) : Abide N (EncI s w n0 pre) := by
  constructor
  · rintro C A h k hk
    obtain ⟨d, h4, _⟩ := h.b4
    have := h4.lt
    rcases (h.cs k).1 hk with q | q | q | q <;> omega
  · rintro C A A' h hk
    obtain ⟨d, h4, h5⟩ := h.b4
    exact ⟨h.cs, boxed_keepN h.b0 hk (by omega), boxed_keepN h.b1 hk (by omega), boxed_keepN h.b2 hk (by omega), boxed_keepN h.b3 hk (by omega), ⟨d, boxed_keepN h4 hk (by omega), h5⟩, hk.later h.bel (by omega) (by omega)⟩
theorem encX_abide (s : List UInt8) (w : World) (n0 N : Nat) (hw : w.heap.size = n0) (hN : n0 + 5 ≤ N) : Abide N (EncX s w n0) := by
  constructor
  · rintro C A h k hk
    have := h.b4
    rcases (h.cs k).1 hk with q | q | q | q <;> omega
  · rintro C A A' h hk
    obtain ⟨a, b, h1, h2, h3, h4⟩ := h.bx
    exact ⟨h.cs, ⟨a, b, boxed_keepN h1 hk (by omega), boxed_keepN h2 hk (by omega), boxed_keepN h3 hk (by omega), h4⟩, Nat.lt_of_lt_of_le h.b4 hk.size, hk.later h.bel (by omega) (by omega)⟩
/-- The rows of the region that tells what is enclosed, in whatever order. -/
structure EncR (s : List UInt8) (k : Nat) (mk : Value → Value → Value → Value → Value → Value → Value → Array Value) (n0 : Nat) (W0 : World) (listed : Array Bool) (a : Act) (w : World) : Prop where
  size : listed.size = 10
  slots : ∃ x24 x25 x26 x27 x28 x29 x30, a = ⟨mk x24 x25 x26 x27 x28 x29 x30, []⟩ ∧ (fl listed 0 = true → x24 = .string (bs s)) ∧ (fl listed 1 = true → x25 = .int .i64 (k : Int)) ∧ (fl listed 2 = true → x26 = .string (bs (s.take k))) ∧ (fl listed 3 = true → x27 = .string (bs s)) ∧
    (fl listed 4 = true → x28 = .int .i64 (k : Int)) ∧ (fl listed 5 = true → x29 = .int .i64 ((k : Int) + 1)) ∧ (fl listed 6 = true → x30 = .string (bs (s.drop (k + 1))))
  cell : w.cell? ⟨n0, 0, none⟩ = some (.string (bs s))
  world : (fl listed 7 = false ∧ fl listed 8 = false ∧ fl listed 9 = false ∧ w = W0) ∨ (fl listed 7 = true ∧ fl listed 8 = false ∧ fl listed 9 = false ∧ w = W0.setCell ⟨n0 + 1, 0, none⟩ (.string (bs (s.take k)))) ∨
    (fl listed 7 = true ∧ fl listed 8 = true ∧ fl listed 9 = false ∧ w = (W0.setCell ⟨n0 + 1, 0, none⟩ (.string (bs (s.take k)))).setCell ⟨n0 + 1 + 1, 0, none⟩ (.string (bs (s.drop (k + 1))))) ∨
    (fl listed 7 = true ∧ fl listed 8 = true ∧ fl listed 9 = true ∧ w = ((W0.setCell ⟨n0 + 1, 0, none⟩ (.string (bs (s.take k)))).setCell ⟨n0 + 1 + 1, 0, none⟩ (.string (bs (s.drop (k + 1))))).setCell ⟨n0 + 1 + 1 + 1, 0, none⟩ (.bool true))
set_option maxRecDepth 100000 in
set_option maxHeartbeats 4000000 in
theorem enclosed_any (s : List UInt8) (hs : s.length ≤ 1000000) (w : World) : Calls Tryd.prog 16 #[.string (bs s)] w fun e w' => e = .returned (enclV (enclosedD s)) ∧ Below w.heap.size w w' := by
  obtain ⟨n0, hn0⟩ : ∃ n, w.heap.size = n := ⟨_, rfl⟩
  have hsz := bs_size s
  refine (callsIn_wide (n := 0)).1 ?_
  refine callsIn_of_wp_marks Tryd.func16 rfl trivial ?_ rfl
  simp only [Tryd.ntmps16, List.size_toArray, List.length_cons, List.length_nil, Nat.reduceAdd, Nat.reduceSub, Array.replicate_succ, Array.replicate_zero, List.push_toArray, List.append_toArray, List.nil_append, List.cons_append]
  gi_wp2_with fail
  refine ⟨trivial, rfl, (callsIn_wide.2 (signs_any _ _)).mono ?_⟩
  rintro e w' ⟨rfl, hw⟩
  rw [hw]
  clear hw w'
  gi_wp2_with fail
  obtain ⟨w1, hw1⟩ : ∃ w1, lay w [.cells #[.string (bs s)] 9, .cells #[.string ⟨#[]⟩] 9, .cells #[.string ⟨#[]⟩] 9, .cells #[.bool false] 4, .cells #[.int .i64 0] 3, .cells #[.string (bs s)] 9] = w1 := ⟨_, rfl⟩
  obtain ⟨z1, l1, f1⟩ := lay_facts [.cells #[.string (bs s)] 9, .cells #[.string ⟨#[]⟩] 9, .cells #[.string ⟨#[]⟩] 9, .cells #[.bool false] 4, .cells #[.int .i64 0] 3, .cells #[.string (bs s)] 9] w
  rw [hw1] at z1 l1 f1
  rw [hn0] at z1 l1 f1
  simp only [lay] at hw1
  rw [hw1]
  clear hw1
  have z1 : w1.heap.size = n0 + 6 := z1
  have q0 : Boxed w1 n0 9 (.string (bs s)) := f1 0 _ rfl
  have q1 : Boxed w1 (n0 + 1) 9 (.string ⟨#[]⟩) := f1 1 _ rfl
  have q2 : Boxed w1 (n0 + 1 + 1) 9 (.string ⟨#[]⟩) := f1 2 _ rfl
  have q3 : Boxed w1 (n0 + 1 + 1 + 1) 4 (.bool false) := f1 3 _ rfl
  have q4 : Boxed w1 (n0 + 1 + 1 + 1 + 1) 3 (.int .i64 ((0 : Nat) : Int)) := f1 4 _ rfl
  have q5 : Boxed w1 (n0 + 1 + 1 + 1 + 1 + 1) 9 (.string (bs s)) := f1 5 _ rfl
  clear f1
  refine range_out (gf := 23) (lb := #[.pointer (some ⟨n0 + 1 + 1 + 1 + 1 + 1, 0, none⟩)]) rfl (enters_of Tryd.func23 (by kernel_rfl) rfl) (signs_hands (n0 + 1 + 1 + 1 + 1 + 1) s hs) (fun _ => rfl)
    (fun k => k = n0 + 1 ∨ k = n0 + 1 + 1 ∨ k = n0 + 1 + 1 + 1 ∨ k = n0 + 1 + 1 + 1 + 1) (EncI s w n0) (EncX s w n0) (fun pre => encI_abide s w n0 _ hn0 (by omega) pre) (encX_abide s w n0 _ hn0 (by omega))
    ⟨fun _ => Iff.rfl, q0, q1, q2, q3, ⟨0, q4, Nat.zero_le _, _, rfl, rfl⟩, l1⟩ (fun W hB => ⟨boxed_below q5 hB (by omega), by omega⟩) ?round ?done ?stop
  case round =>
    rintro l pre ⟨k, c⟩ C W hl hrec hCl hpre hI
    simp only [encSign]
    gi_wp2
    refine ⟨Below.refl _ _, fun W2 hsw => ?_⟩
    have hI2 := (encI_abide s w n0 w1.heap.size hn0 (by omega) pre).keep _ _ _ hI (hsw.keep hl hCl)
    obtain ⟨d, h4, hd, hL⟩ := hI2.b4
    obtain ⟨r, hr, hcl⟩ := hL.step hpre
    have hks := (signs_at s false 0 _ (mem_of_pre hpre)).2
    have hpl := len_of_pre hpre
    have hsl := signs_len s false 0
    have hdb : d ≤ 1000000 := by omega
    have hkb : k < s.length := by simpa using hks
    clear hks hpl hsl hL
    have c0 := hI2.b0.cell
    have c4 := h4.cell
    have f4 := h4.frozen
    have f1 := hI2.b1.frozen
    have f2 := hI2.b2.frozen
    have f3 := hI2.b3.frozen
    have c1 := hI2.b1.cell
    have c2 := hI2.b2.cell
    have c3 := hI2.b3.cell
    have HALL := hide (And.intro hI2 (And.intro h4 (And.intro hr hcl)))
    clear hI hI2 h4 hr hcl hsw hpre q0 q1 q2 q3 q4 q5 l1
    rcases sign_cases c with e1 | ⟨e1, e2⟩ | ⟨e1, e2⟩
    · gi_wp2
      obtain ⟨hI2, h4, hr, hcl⟩ := HALL.out
      have hc : c = 123 := by simpa using is123 e1
      rw [closeD, if_pos hc] at hcl
      exact ⟨C, TurnC.setCell _ _ _ ((hI2.cs _).2 (by omega)), hI2.cs, hI2.b0.other (by omega) _, hI2.b1.other (by omega) _, hI2.b2.other (by omega) _, hI2.b3.other (by omega) _, ⟨d + 1, h4.set _, by simp; omega, r, hr, hcl⟩, hI2.bel.setCell (p := ⟨n0 + 1 + 1 + 1 + 1, 0, none⟩) (by show n0 ≤ n0 + 1 + 1 + 1 + 1; omega) _⟩
    · have hc1 : ¬ c = 123 := by simpa using is123 e1
      have hc : c = 125 := by simpa using is125 e2
      by_cases hd0 : d = 0
      · subst hd0
        gi_wp2
        have hk1 : (k : Int) + 1 ≤ (s.length : Int) := by omega
        have hk2 : (0 : Int) ≤ (k : Int) + 1 := by omega
        have hk3 : (k : Int) ≤ (s.length : Int) := by omega
        have hwr : IntKind.i64.wrap ((k : Int) + 1) = (k : Int) + 1 := by rw [IntKind.wrap_i64]; omega
        have hsz := bs_size s
        refine wpIn_region_any (by kernel_rfl) (wpAnyIn_inv (I := EncR s k (fun x24 x25 x26 x27 x28 x29 x30 => ((Value.string (bs s) :: Value.pointer (some ⟨n0, 0, none⟩) :: Value.pointer (some ⟨n0 + 1, 0, none⟩) :: Value.pointer (some ⟨n0 + 1 + 1, 0, none⟩) :: Value.pointer (some ⟨n0 + 1 + 1 + 1, 0, none⟩) :: Value.pointer (some ⟨n0 + 1 + 1 + 1 + 1, 0, none⟩) :: Value.int .i64 (k : Int) :: Value.int .u8 (c.toNat : Int) :: Value.string (bs s) :: Value.func (.func 23) #[] #[.pointer (some ⟨n0 + 1 + 1 + 1 + 1 + 1, 0, none⟩)] :: Value.int .i64 (k : Int) :: Value.int .u8 (c.toNat : Int) :: Value.bool false :: Value.int .u8 (c.toNat : Int) :: Value.bool false :: undef :: undef :: Value.bool true :: Value.int .u8 (c.toNat : Int) :: Value.bool true :: Value.bool true :: Value.int .i64 0 :: Value.bool true :: Value.bool true :: x24 :: x25 :: x26 :: x27 :: x28 :: x29 :: x30 :: undef :: undef :: undef :: undef :: undef :: [] : List Value).toArray)) n0 W2.drew) ?hend ?hstep _ _ _ _ (by decide) ?hinit)
        case hinit =>
          exact ⟨rfl, ⟨undef, undef, undef, undef, undef, undef, undef, rfl, fun h => by (rw [fl_none] at h; cases h), fun h => by (rw [fl_none] at h; cases h), fun h => by (rw [fl_none] at h; cases h), fun h => by (rw [fl_none] at h; cases h), fun h => by (rw [fl_none] at h; cases h), fun h => by (rw [fl_none] at h; cases h), fun h => by (rw [fl_none] at h; cases h)⟩, c0, .inl ⟨fl_none _ _, fl_none _ _, fl_none _ _, rfl⟩⟩
        case hend =>
          intro listed a' w' hI hr
          have hall := all_listed' (ops := _) hI.size hr (after_ok' (by kernel_rfl))
          have hl7 : fl listed 9 = true := hall 9 (by decide)
          have hw : w' = ((W2.drew.setCell ⟨n0 + 1, 0, none⟩ (.string (bs (s.take k)))).setCell ⟨n0 + 1 + 1, 0, none⟩ (.string (bs (s.drop (k + 1))))).setCell ⟨n0 + 1 + 1 + 1, 0, none⟩ (.bool true) := by
            rcases hI.world with ⟨_, _, h, _⟩ | ⟨_, _, h, _⟩ | ⟨_, _, h, _⟩ | ⟨_, _, _, h⟩
            · rw [hl7] at h; cases h
            · rw [hl7] at h; cases h
            · rw [hl7] at h; cases h
            · exact h
          obtain ⟨x24, x25, x26, x27, x28, x29, x30, rfl, _⟩ := hI.slots
          rw [hw]
          clear hw hI hr hall hl7
          gi_wp2
          obtain ⟨hI2, h4, hr, hcl⟩ := HALL.out
          rw [closeD, if_neg hc1, if_pos hc, if_pos rfl] at hcl
          have he : enclosedD s = some (s.take k, s.drop (k + 1)) := by unfold enclosedD; rw [hcl]
          have b1 : Boxed W2.drew (n0 + 1) 9 (.string ⟨#[]⟩) := hI2.b1
          have b2 : Boxed W2.drew (n0 + 1 + 1) 9 (.string ⟨#[]⟩) := hI2.b2
          have b3 : Boxed W2.drew (n0 + 1 + 1 + 1) 4 (.bool false) := hI2.b3
          have bel : Below n0 w W2.drew := hI2.bel.drew
          have tt : TurnC C C W2 W2.drew := ⟨rfl, rfl, rfl, Nat.le_refl _, fun _ _ _ => rfl, fun _ h => .inl h⟩
          refine ⟨C, ((tt.trans (TurnC.setCell _ _ _ ((hI2.cs _).2 (by omega)))).trans (TurnC.setCell _ _ _ ((hI2.cs _).2 (by omega)))).trans (TurnC.setCell _ _ _ ((hI2.cs _).2 (by omega))), hI2.cs, ⟨_, _, ((b1.set _).other (by omega) _).other (by omega) _, ((b2.other (by omega) _).set _).other (by omega) _, ((b3.other (by omega) _).other (by omega) _).set _, he⟩, ?_, ?_⟩
          · have := h4.lt
            have a1 := (KeepsWalks.setCell W2.drew ⟨n0 + 1, 0, none⟩ (.string (bs (s.take k)))).size
            have a2 := (KeepsWalks.setCell (W2.drew.setCell ⟨n0 + 1, 0, none⟩ (.string (bs (s.take k)))) ⟨n0 + 1 + 1, 0, none⟩ (.string (bs (s.drop (k + 1))))).size
            have a3 := (KeepsWalks.setCell ((W2.drew.setCell ⟨n0 + 1, 0, none⟩ (.string (bs (s.take k)))).setCell ⟨n0 + 1 + 1, 0, none⟩ (.string (bs (s.drop (k + 1))))) ⟨n0 + 1 + 1 + 1, 0, none⟩ (.bool true)).size
            exact Nat.lt_of_lt_of_le this (Nat.le_trans a1 (Nat.le_trans a2 a3))
          · exact ((bel.setCell (p := ⟨n0 + 1, 0, none⟩) (by show n0 ≤ n0 + 1; omega) _).setCell (p := ⟨n0 + 1 + 1, 0, none⟩) (by show n0 ≤ n0 + 1 + 1; omega) _).setCell (p := ⟨n0 + 1 + 1 + 1, 0, none⟩) (by show n0 ≤ n0 + 1 + 1 + 1; omega) _
        case hstep =>
          intro listed a' w' i o hI ho hi hdep K' hK
          have hlt : i < 10 := (Array.getElem?_eq_some_iff.1 ho).1
          have hls := hI.size
          have hcl := hI.cell
          have hsz' : (listed.setIfInBounds i true).size = 10 := by rw [Array.size_setIfInBounds]; exact hls
          have hwo : i < 7 → (fl (listed.setIfInBounds i true) 7 = fl listed 7 ∧ fl (listed.setIfInBounds i true) 8 = fl listed 8 ∧ fl (listed.setIfInBounds i true) 9 = fl listed 9) := fun h => ⟨fl_ne (by omega), fl_ne (by omega), fl_ne (by omega)⟩
          obtain ⟨x24, x25, x26, x27, x28, x29, x30, rfl, c0, c1, c2, c3, c4, c5, c6⟩ := hI.slots
          match i, hlt with
          | 0, _ =>
            obtain rfl := Option.some.inj ho
            refine st_valIn (v := .string (bs s)) (w' := w') rfl (fun _ h => by cases h) ?_ (hK _ _ ⟨hsz', ⟨.string (bs s), x25, x26, x27, x28, x29, x30, rfl, fun _ => rfl, fun h => c1 (by rwa [fl_ne (by decide)] at h), fun h => c2 (by rwa [fl_ne (by decide)] at h), fun h => c3 (by rwa [fl_ne (by decide)] at h), fun h => c4 (by rwa [fl_ne (by decide)] at h), fun h => c5 (by rwa [fl_ne (by decide)] at h), fun h => c6 (by rwa [fl_ne (by decide)] at h)⟩, hcl, ?_⟩)
            · simp [execOp, go_sem, Result.andThen, hcl]
            · rw [(hwo (by decide)).1, (hwo (by decide)).2.1, (hwo (by decide)).2.2]; exact hI.world
          | 1, _ =>
            obtain rfl := Option.some.inj ho
            refine st_valIn (v := .int .i64 (k : Int)) (w' := w') rfl (fun _ h => by cases h) ?_ (hK _ _ ⟨hsz', ⟨x24, .int .i64 (k : Int), x26, x27, x28, x29, x30, rfl, fun h => c0 (by rwa [fl_ne (by decide)] at h), fun _ => rfl, fun h => c2 (by rwa [fl_ne (by decide)] at h), fun h => c3 (by rwa [fl_ne (by decide)] at h), fun h => c4 (by rwa [fl_ne (by decide)] at h), fun h => c5 (by rwa [fl_ne (by decide)] at h), fun h => c6 (by rwa [fl_ne (by decide)] at h)⟩, hcl, ?_⟩)
            · simp [execOp, go_sem]
            · rw [(hwo (by decide)).1, (hwo (by decide)).2.1, (hwo (by decide)).2.2]; exact hI.world
          | 2, _ =>
            obtain rfl := Option.some.inj ho
            have ex24 := c0 (hdep ⟨0, .data⟩ (by simp) rfl)
            have ex25 := c1 (hdep ⟨1, .data⟩ (by simp) rfl)
            refine st_valIn (v := .string (bs (s.take k))) (w' := w') rfl (fun _ h => by cases h) ?_ (hK _ _ ⟨hsz', ⟨x24, x25, .string (bs (s.take k)), x27, x28, x29, x30, rfl, fun h => c0 (by rwa [fl_ne (by decide)] at h), fun h => c1 (by rwa [fl_ne (by decide)] at h), fun _ => rfl, fun h => c3 (by rwa [fl_ne (by decide)] at h), fun h => c4 (by rwa [fl_ne (by decide)] at h), fun h => c5 (by rwa [fl_ne (by decide)] at h), fun h => c6 (by rwa [fl_ne (by decide)] at h)⟩, hcl, ?_⟩)
            · simp [execOp, go_sem, Result.andThen, ex24, ex25, hk3, bs_take, hsz]
            · rw [(hwo (by decide)).1, (hwo (by decide)).2.1, (hwo (by decide)).2.2]; exact hI.world
          | 3, _ =>
            obtain rfl := Option.some.inj ho
            refine st_valIn (v := .string (bs s)) (w' := w') rfl (fun _ h => by cases h) ?_ (hK _ _ ⟨hsz', ⟨x24, x25, x26, .string (bs s), x28, x29, x30, rfl, fun h => c0 (by rwa [fl_ne (by decide)] at h), fun h => c1 (by rwa [fl_ne (by decide)] at h), fun h => c2 (by rwa [fl_ne (by decide)] at h), fun _ => rfl, fun h => c4 (by rwa [fl_ne (by decide)] at h), fun h => c5 (by rwa [fl_ne (by decide)] at h), fun h => c6 (by rwa [fl_ne (by decide)] at h)⟩, hcl, ?_⟩)
            · simp [execOp, go_sem, Result.andThen, hcl]
            · rw [(hwo (by decide)).1, (hwo (by decide)).2.1, (hwo (by decide)).2.2]; exact hI.world
          | 4, _ =>
            obtain rfl := Option.some.inj ho
            refine st_valIn (v := .int .i64 (k : Int)) (w' := w') rfl (fun _ h => by cases h) ?_ (hK _ _ ⟨hsz', ⟨x24, x25, x26, x27, .int .i64 (k : Int), x29, x30, rfl, fun h => c0 (by rwa [fl_ne (by decide)] at h), fun h => c1 (by rwa [fl_ne (by decide)] at h), fun h => c2 (by rwa [fl_ne (by decide)] at h), fun h => c3 (by rwa [fl_ne (by decide)] at h), fun _ => rfl, fun h => c5 (by rwa [fl_ne (by decide)] at h), fun h => c6 (by rwa [fl_ne (by decide)] at h)⟩, hcl, ?_⟩)
            · simp [execOp, go_sem]
            · rw [(hwo (by decide)).1, (hwo (by decide)).2.1, (hwo (by decide)).2.2]; exact hI.world
          | 5, _ =>
            obtain rfl := Option.some.inj ho
            have ex28 := c4 (hdep ⟨4, .data⟩ (by simp) rfl)
            refine st_valIn (v := .int .i64 ((k : Int) + 1)) (w' := w') rfl (fun _ h => by cases h) ?_ (hK _ _ ⟨hsz', ⟨x24, x25, x26, x27, x28, .int .i64 ((k : Int) + 1), x30, rfl, fun h => c0 (by rwa [fl_ne (by decide)] at h), fun h => c1 (by rwa [fl_ne (by decide)] at h), fun h => c2 (by rwa [fl_ne (by decide)] at h), fun h => c3 (by rwa [fl_ne (by decide)] at h), fun h => c4 (by rwa [fl_ne (by decide)] at h), fun _ => rfl, fun h => c6 (by rwa [fl_ne (by decide)] at h)⟩, hcl, ?_⟩)
            · simp [execOp, go_sem, ex28, hwr]
            · rw [(hwo (by decide)).1, (hwo (by decide)).2.1, (hwo (by decide)).2.2]; exact hI.world
          | 6, _ =>
            obtain rfl := Option.some.inj ho
            have ex27 := c3 (hdep ⟨3, .data⟩ (by simp) rfl)
            have ex29 := c5 (hdep ⟨5, .data⟩ (by simp) rfl)
            refine st_valIn (v := .string (bs (s.drop (k + 1)))) (w' := w') rfl (fun _ h => by cases h) ?_ (hK _ _ ⟨hsz', ⟨x24, x25, x26, x27, x28, x29, .string (bs (s.drop (k + 1))), rfl, fun h => c0 (by rwa [fl_ne (by decide)] at h), fun h => c1 (by rwa [fl_ne (by decide)] at h), fun h => c2 (by rwa [fl_ne (by decide)] at h), fun h => c3 (by rwa [fl_ne (by decide)] at h), fun h => c4 (by rwa [fl_ne (by decide)] at h), fun h => c5 (by rwa [fl_ne (by decide)] at h), fun _ => rfl⟩, hcl, ?_⟩)
            · simp [execOp, go_sem, Result.andThen, ex27, ex29, hk1, hk2, hsz, bs_drop]
            · rw [(hwo (by decide)).1, (hwo (by decide)).2.1, (hwo (by decide)).2.2]; exact hI.world
          | 7, _ =>
            obtain rfl := Option.some.inj ho
            have e := c2 (hdep ⟨2, .data⟩ (by simp) rfl)
            have f := fl_not hi
            obtain ⟨hI2, _⟩ := HALL.out
            have b0 : Boxed W2.drew n0 9 (.string (bs s)) := hI2.b0
            rcases hI.world with ⟨_, g2, g3, rfl⟩ | ⟨h, _⟩ | ⟨h, _⟩ | ⟨h, _⟩
            · have k1 := hI2.b1.cell
              have k2 := hI2.b1.frozen
              refine st_skpIn (w' := W2.drew.setCell ⟨n0 + 1, 0, none⟩ (.string (bs (s.take k)))) rfl (fun _ h => by cases h) ?_ (hK _ _ ⟨hsz', ⟨x24, x25, x26, x27, x28, x29, x30, rfl, fun h => c0 (by rwa [fl_ne (by decide)] at h), fun h => c1 (by rwa [fl_ne (by decide)] at h), fun h => c2 (by rwa [fl_ne (by decide)] at h), fun h => c3 (by rwa [fl_ne (by decide)] at h), fun h => c4 (by rwa [fl_ne (by decide)] at h), fun h => c5 (by rwa [fl_ne (by decide)] at h), fun h => c6 (by rwa [fl_ne (by decide)] at h)⟩, (b0.other (by omega) _).cell, .inr (.inl ⟨fl_self (by omega), by rw [fl_ne (by decide)]; exact g2, by rw [fl_ne (by decide)]; exact g3, rfl⟩)⟩)
              simp [execOp, go_sem, Result.andThen, k1, k2, e]
            · rw [f] at h; cases h
            · rw [f] at h; cases h
            · rw [f] at h; cases h
          | 8, _ =>
            obtain rfl := Option.some.inj ho
            have e := c6 (hdep ⟨6, .data⟩ (by simp) rfl)
            have f := fl_not hi
            have f7 : fl listed 7 = true := hdep ⟨7, .chain⟩ (by simp) rfl
            obtain ⟨hI2, _⟩ := HALL.out
            have b0 : Boxed W2.drew n0 9 (.string (bs s)) := hI2.b0
            rcases hI.world with ⟨h, _⟩ | ⟨_, _, g3, rfl⟩ | ⟨_, h, _⟩ | ⟨_, h, _⟩
            · rw [f7] at h; cases h
            · have k1 := hI2.b2.cell
              have k2 := hI2.b2.frozen
              refine st_skpIn (w' := (W2.drew.setCell ⟨n0 + 1, 0, none⟩ (.string (bs (s.take k)))).setCell ⟨n0 + 1 + 1, 0, none⟩ (.string (bs (s.drop (k + 1))))) rfl (fun _ h => by cases h) ?_ (hK _ _ ⟨hsz', ⟨x24, x25, x26, x27, x28, x29, x30, rfl, fun h => c0 (by rwa [fl_ne (by decide)] at h), fun h => c1 (by rwa [fl_ne (by decide)] at h), fun h => c2 (by rwa [fl_ne (by decide)] at h), fun h => c3 (by rwa [fl_ne (by decide)] at h), fun h => c4 (by rwa [fl_ne (by decide)] at h), fun h => c5 (by rwa [fl_ne (by decide)] at h), fun h => c6 (by rwa [fl_ne (by decide)] at h)⟩, ((b0.other (by omega) _).other (by omega) _).cell, .inr (.inr (.inl ⟨by rw [fl_ne (by decide)]; exact f7, fl_self (by omega), by rw [fl_ne (by decide)]; exact g3, rfl⟩))⟩)
              simp [execOp, go_sem, Result.andThen, k1, k2, e]
            · rw [f] at h; cases h
            · rw [f] at h; cases h
          | 9, _ =>
            obtain rfl := Option.some.inj ho
            have f := fl_not hi
            have f8 : fl listed 8 = true := hdep ⟨8, .chain⟩ (by simp) rfl
            obtain ⟨hI2, _⟩ := HALL.out
            have b0 : Boxed W2.drew n0 9 (.string (bs s)) := hI2.b0
            rcases hI.world with ⟨_, h, _⟩ | ⟨_, h, _⟩ | ⟨f7, _, _, rfl⟩ | ⟨_, _, h, _⟩
            · rw [f8] at h; cases h
            · rw [f8] at h; cases h
            · have k1 := hI2.b3.cell
              have k2 := hI2.b3.frozen
              refine st_skpIn (w' := ((W2.drew.setCell ⟨n0 + 1, 0, none⟩ (.string (bs (s.take k)))).setCell ⟨n0 + 1 + 1, 0, none⟩ (.string (bs (s.drop (k + 1))))).setCell ⟨n0 + 1 + 1 + 1, 0, none⟩ (.bool true)) rfl (fun _ h => by cases h) ?_ (hK _ _ ⟨hsz', ⟨x24, x25, x26, x27, x28, x29, x30, rfl, fun h => c0 (by rwa [fl_ne (by decide)] at h), fun h => c1 (by rwa [fl_ne (by decide)] at h), fun h => c2 (by rwa [fl_ne (by decide)] at h), fun h => c3 (by rwa [fl_ne (by decide)] at h), fun h => c4 (by rwa [fl_ne (by decide)] at h), fun h => c5 (by rwa [fl_ne (by decide)] at h), fun h => c6 (by rwa [fl_ne (by decide)] at h)⟩, (((b0.other (by omega) _).other (by omega) _).other (by omega) _).cell, .inr (.inr (.inr ⟨by rw [fl_ne (by decide)]; exact f7, by rw [fl_ne (by decide)]; exact f8, fl_self (by omega), rfl⟩))⟩)
              simp [execOp, go_sem, Result.andThen, k1, k2]
            · rw [f] at h; cases h
      · have hdI : ((d : Int) == 0) = false := by simp; omega
        gi_wp2
        obtain ⟨hI2, h4, hr, hcl⟩ := HALL.out
        rw [closeD, if_neg hc1, if_pos hc, if_neg hd0] at hcl
        have ed : (d : Int) - 1 = ((d - 1 : Nat) : Int) := by omega
        rw [ed]
        exact ⟨C, TurnC.setCell _ _ _ ((hI2.cs _).2 (by omega)), hI2.cs, hI2.b0.other (by omega) _, hI2.b1.other (by omega) _, hI2.b2.other (by omega) _, hI2.b3.other (by omega) _, ⟨d - 1, h4.set _, by simp; omega, r, hr, hcl⟩, hI2.bel.setCell (p := ⟨n0 + 1 + 1 + 1 + 1, 0, none⟩) (by show n0 ≤ n0 + 1 + 1 + 1 + 1; omega) _⟩
    · have hc1 : ¬ c = 123 := by simpa using is123 e1
      have hc : ¬ c = 125 := by simpa using is125 e2
      gi_wp2
      obtain ⟨hI2, h4, hr, hcl⟩ := HALL.out
      rw [closeD, if_neg hc1, if_neg hc] at hcl
      exact ⟨C, TurnC.refl _ _, hI2.cs, hI2.b0, hI2.b1, hI2.b2, hI2.b3, ⟨d, h4, by simp; omega, r, hr, hcl⟩, hI2.bel⟩
  case done =>
    rintro C W hz hC hI hK
    obtain ⟨d, h4, hd, r, hr, hcl⟩ := hI.b4
    have c1 := hI.b1.cell
    have c2 := hI.b2.cell
    have c3 := hI.b3.cell
    have f1 := hI.b1.frozen
    have f2 := hI.b2.frozen
    have f3 := hI.b3.frozen
    have HALL := hide (And.intro hI (And.intro hK (And.intro hr hcl)))
    clear hI hK hr hcl h4 hz hC
    gi_wp2
    obtain ⟨hI, hK, hr, hcl⟩ := HALL.out
    have er : r = [] := by have := congrArg List.length hr; simp at this; exact this
    have he : enclosedD s = none := by unfold enclosedD; rw [hcl, er]; simp [closeD]
    have g1 := (((hI.b1.set (.string ⟨#[]⟩)).other (B' := n0 + 1 + 1) (by omega) (.string ⟨#[]⟩)).other (B' := n0 + 1 + 1 + 1) (by omega) (.bool false))
    have g2 := (((hI.b2.other (B' := n0 + 1) (by omega) (.string ⟨#[]⟩)).set (.string ⟨#[]⟩)).other (B' := n0 + 1 + 1 + 1) (by omega) (.bool false))
    have g3 := (((hI.b3.other (B' := n0 + 1) (by omega) (.string ⟨#[]⟩)).other (B' := n0 + 1 + 1) (by omega) (.string ⟨#[]⟩)).set (.bool false))
    have k1 := (boxed_put (o := .deferred none) (D := w1.heap.size) g1 (by omega)).cell
    have k2 := (boxed_put (o := .deferred none) (D := w1.heap.size) g2 (by omega)).cell
    have k3 := (boxed_put (o := .deferred none) (D := w1.heap.size) g3 (by omega)).cell
    refine leave_ret (v := enclV (enclosedD s)) (def_set (def_set (def_set hK (by omega)) (by omega)) (by omega)) ?_ ⟨rfl, ?_⟩
    · rw [he]
      simp [results, Tryd.results16, go_sem, k1, k2, k3, enclV]
    · rw [hn0]
      exact below_put (((hI.bel.setCell (p := ⟨n0 + 1, 0, none⟩) (by show n0 ≤ n0 + 1; omega) _).setCell (p := ⟨n0 + 1 + 1, 0, none⟩) (by show n0 ≤ n0 + 1 + 1; omega) _).setCell (p := ⟨n0 + 1 + 1 + 1, 0, none⟩) (by show n0 ≤ n0 + 1 + 1 + 1; omega) _) (by omega)
  case stop =>
    rintro C W hz hC hI hK
    obtain ⟨x, y, g1, g2, g3, he⟩ := hI.bx
    have k1 := (boxed_put (o := .deferred none) (D := w1.heap.size) g1 (by omega)).cell
    have k2 := (boxed_put (o := .deferred none) (D := w1.heap.size) g2 (by omega)).cell
    have k3 := (boxed_put (o := .deferred none) (D := w1.heap.size) g3 (by omega)).cell
    gi_wp2
    refine leave_ret (v := enclV (enclosedD s)) hK ?_ ⟨rfl, ?_⟩
    · rw [he]
      simp [results, Tryd.results16, go_sem, k1, k2, k3, enclV]
    · rw [hn0]
      exact below_put hI.bel (by omega)
end Go.Proofs.YtgpgbobmpdgfeaaDoor
