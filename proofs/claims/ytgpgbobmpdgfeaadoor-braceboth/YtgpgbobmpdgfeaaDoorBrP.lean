/- A group's texts: a list's or a row's. -/
import Derived.Test.YtgpgbobmpdgfeaaDoorBrO
import Derived.Laws.EntriesVeiled
namespace Go.Proofs.YtgpgbobmpdgfeaaDoor
open Go.RowKit Go.Shelf
attribute [local go_sem] Oper.semAt_some

theorem index_dots : ∀ (l : List UInt8), (dotsD l = none ∧ Lib.index l [46, 46] = -1) ∨ ∃ x y, dotsD l = some (x, y) ∧ Lib.index l [46, 46] = (x.length : Int) ∧ l = x ++ 46 :: 46 :: y := by
  intro l
  induction l with
  | nil => left; exact ⟨rfl, rfl⟩
  | cons c r ih =>
    cases r with
    | nil =>
      left
      refine ⟨rfl, ?_⟩
      have hp : ([46, 46] : List UInt8).isPrefixOf [c] = false := by
        show ((46 : UInt8) == c && false) = false
        simp
      rw [Lib.index, hp]
      rfl
    | cons d r =>
      by_cases h : c = 46 ∧ d = 46
      · right
        obtain ⟨rfl, rfl⟩ := h
        exact ⟨[], r, by rw [dotsD]; simp, by rw [Lib.index]; simp, rfl⟩
      · have hp : ([46, 46] : List UInt8).isPrefixOf (c :: d :: r) = false := by
          show ((46 : UInt8) == c && ((46 : UInt8) == d && true)) = false
          by_cases e1 : c = 46
          · have e2 : ¬ d = 46 := fun e => h ⟨e1, e⟩
            have : ((46 : UInt8) == d) = false := by simpa using fun e => e2 e.symm
            rw [this]; simp
          · have : ((46 : UInt8) == c) = false := by simpa using fun e => e1 e.symm
            rw [this]; rfl
        have hd : dotsD (c :: d :: r) = (dotsD (d :: r)).map fun (x, y) => (c :: x, y) := by
          rw [dotsD, if_neg h]
        rw [Lib.index, hp]
        rcases ih with ⟨h1, h2⟩ | ⟨x, y, h1, h2, h3⟩
        · left
          rw [hd, h1, h2]
          exact ⟨rfl, rfl⟩
        · right
          refine ⟨c :: x, y, by rw [hd, h1]; rfl, ?_, by rw [h3]; rfl⟩
          rw [h2]
          have : ((x.length : Int) == -1) = false := by rw [beq_eq_false_iff_ne]; omega
          rw [this]
          simp
theorem cut_dots (l : List UInt8) : (dotsD l = none ∧ Lib.cut l [46, 46] = (l, [], false)) ∨ ∃ x y, dotsD l = some (x, y) ∧ Lib.cut l [46, 46] = (x, y, true) ∧ l = x ++ 46 :: 46 :: y := by
  rcases index_dots l with ⟨h1, h2⟩ | ⟨x, y, h1, h2, h3⟩
  · left
    refine ⟨h1, ?_⟩
    unfold Lib.cut
    rw [h2, if_neg (by decide)]
  · right
    refine ⟨x, y, h1, ?_, h3⟩
    unfold Lib.cut
    rw [h2, if_pos (by omega), Int.toNat_natCast, h3]
    simp
/-- The two kinds, laid. -/
def Kinds (g : Nat) (W : World) : Prop := W.heap[g]? = some (.cells #[.func (.func 33) #[] #[], .func (.func 34) #[] #[], .func (.func 35) #[] #[], .func (.func 36) #[] #[]] 63 (0, 0))
theorem Kinds.cell {g : Nat} {W : World} (h : Kinds g W) : W.cell? ⟨g, 0, none⟩ = some (.func (.func 33) #[] #[]) ∧ W.cell? ⟨g, 1, none⟩ = some (.func (.func 34) #[] #[]) ∧ W.cell? ⟨g, 2, none⟩ = some (.func (.func 35) #[] #[]) ∧ W.cell? ⟨g, 3, none⟩ = some (.func (.func 36) #[] #[]) := by
  unfold Kinds at h
  simp [World.cell?, h]
theorem nil_cells (w : World) : (w.alloc (.cells #[.nilFunc, .nilFunc] 63)).cell? ⟨w.heap.size, 0, none⟩ = some .nilFunc ∧ (w.alloc (.cells #[.nilFunc, .nilFunc] 63)).cell? ⟨w.heap.size, 1, none⟩ = some .nilFunc ∧ (w.alloc (.cells #[.nilFunc, .nilFunc] 63)).frozen? ⟨w.heap.size, 0, none⟩ = false ∧ (w.alloc (.cells #[.nilFunc, .nilFunc] 63)).frozen? ⟨w.heap.size, 1, none⟩ = false := by
  have h := World.alloc_heap_new w (.cells #[.nilFunc, .nilFunc] 63)
  refine ⟨by simp only [World.cell?, h]; rfl, by simp only [World.cell?, h]; rfl, by simp only [World.frozen?, h]; rfl, by simp only [World.frozen?, h]; rfl⟩
theorem readOut_some {a : Int} {e : Ending} (h : ReadOut (some a) e) : e = .returned (.tuple #[.int .i64 a, .bool true]) := by
  obtain ⟨v, rfl, hv⟩ := h
  rw [hv a rfl]
  rfl
/-- What rowTexts answers. -/
def RowV (n0 : Nat) (o : Option (Int × Int × Bool)) (e : Ending) (w' : World) : Prop := match o with
  | none => e = .returned (.tuple #[.nilFunc, .bool false])
  | some (a, b, l) => ∃ f1 f2 f3 f4, e = .returned (.tuple #[.func (.func 44) #[] #[.pointer (some ⟨f1, 0, none⟩), .pointer (some ⟨f2, 0, none⟩), .pointer (some ⟨f3, 0, none⟩), .pointer (some ⟨f4, 0, none⟩)], .bool true]) ∧ RowAt a b l f1 f2 f3 f4 w' ∧ n0 ≤ f1 ∧ n0 ≤ f2 ∧ n0 ≤ f3 ∧ n0 ≤ f4
set_option maxRecDepth 100000 in
set_option maxHeartbeats 4000000 in
theorem rowTexts_pair (s x y : List UInt8) (fnd : Bool) (hx : x.length ≤ 1000000) (hy : y.length ≤ 1000000) (w : World) (o : Option (Int × Int × Bool))
    (hcut : ∀ w, GW w → Calls Tryd.prog 32 #[.string (bs s), .string ⟨#[46, 46]⟩] w fun e w' => e = .returned (.tuple #[.string (bs x), .string (bs y), .bool fnd]) ∧ Below w.heap.size w w') (hG : GW w)
    (ho : o = match numberD x, numberD y with
      | some a, some b => some (a, b, false)
      | _, _ => match letterD x, letterD y with
        | some a, some b => some (a, b, true)
        | _, _ => none) :
    Calls Tryd.prog 26 #[.string (bs s)] w fun e w' => RowV w.heap.size o e w' ∧ Below w.heap.size w w' := by
  go_enter Tryd.func26, Tryd.ntmps26
  go_wp2_with fail
  refine (hcut w hG).mono ?_
  rintro e w2 ⟨rfl, hB2⟩
  clear hcut
  go_wp2_with fail
  obtain ⟨g, hg⟩ : ∃ g, w2.heap.size = g := ⟨_, rfl⟩
  obtain ⟨w3, hw3⟩ : ∃ w3, w2.alloc (.cells #[.func (.func 33) #[] #[], .func (.func 34) #[] #[], .func (.func 35) #[] #[], .func (.func 36) #[] #[]] 63) = w3 := ⟨_, rfl⟩
  have hK3 : Kinds g w3 := by rw [← hw3, ← hg]; exact World.alloc_heap_new _ _
  have hB3 : Below w.heap.size w w3 := by rw [← hw3]; exact hB2.trans ((Below.refl _ _).alloc hB2.size _)
  have hgn : w.heap.size ≤ g := by rw [← hg]; exact hB2.size
  rw [hg, hw3]
  clear hw3 hg hB2
  go_loopw [23] (fun iv wr => ∃ i : Nat, iv = .int .i64 (i : Int) ∧ Kinds g wr ∧ Below w.heap.size w wr ∧ (i = 0 ∨ (i = 1 ∧ (numberD x = none ∨ numberD y = none)) ∨ (i = 2 ∧ (numberD x = none ∨ numberD y = none) ∧ (letterD x = none ∨ letterD y = none)))) (fun iv _ => 2 - (intOf iv).toNat)
  case atStart => exact ⟨0, rfl, hK3, hB3, .inl rfl⟩
  case round =>
    obtain ⟨i, rfl, hK, hB, hi⟩ := hrel
    clear hK3 hB3
    rcases hi with rfl | ⟨rfl, hn⟩ | ⟨rfl, hn, hl⟩
    · have hk := hK.cell
      obtain ⟨k0, k1, k2, k3⟩ := hk
      obtain ⟨n1, hn1⟩ : ∃ n1, wr.heap.size = n1 := ⟨_, rfl⟩
      have hB' : Below w.heap.size w (wr.alloc (.cells #[.func (.func 33) #[] #[], .func (.func 34) #[] #[]] 63)) := hB.trans ((Below.refl _ _).alloc hB.size _)
      have hK' : Kinds g (wr.alloc (.cells #[.func (.func 33) #[] #[], .func (.func 34) #[] #[]] 63)) := (Below.heap_alloc _ _ _ (Array.getElem?_eq_some_iff.1 hK).1).trans hK
      have HB := hide (And.intro hK' hB')
      clear hK hB hK' hB'
      by_cases both : ∃ a b, numberD x = some a ∧ numberD y = some b
      · obtain ⟨a, b, hX, hZ⟩ := both
        have HO : Hid (o = some (a, b, false)) := by
          show o = _
          rw [ho, hX, hZ]
        have h1 := fun w => number_any x w hx
        have h2 := fun w => number_any y w hy
        rw [hX] at h1
        rw [hZ] at h2
        clear hX hZ ho
        go_wp2_with fail
        refine (h1 _).mono ?_
        rintro e w' ⟨hr, hw⟩
        rw [readOut_some hr, hw]
        clear hr hw
        go_wp2_with fail
        refine (h2 _).mono ?_
        rintro e w' ⟨hr, hw⟩
        rw [readOut_some hr, hw]
        clear hr hw h1 h2
        go_wp2_with fail
        refine (row_any a b 34 _).mono ?_
        rintro e w9 ⟨rfl, l9, r0, r1, r2, r3⟩
        have HR := hide (And.intro l9 (And.intro r0 (And.intro r1 (And.intro r2 r3))))
        clear l9 r0 r1 r2 r3
        have hz : (wr.alloc (.cells #[.func (.func 33) #[] #[], .func (.func 34) #[] #[]] 63)).heap.size = n1 + 1 := by rw [World.size_alloc, hn1]
        have HZ := hide hz
        have HN1 := hide hn1
        clear hz hn1
        go_wp2
        go_ret2
        obtain ⟨l9, r0, r1, r2, r3⟩ := HR.out
        have hs := HB.out.2.size
        have hs2 := hs
        rw [World.size_alloc] at r0 r1 r2 r3 hs2
        rw [HO.out]
        refine ⟨⟨_, _, _, _, rfl, ⟨r0, r2, r1, r3⟩, ?_, ?_, ?_, ?_⟩, HB.out.2.trans (l9.mono hs)⟩ <;> omega
      · have HX : Hid (numberD x = none ∨ numberD y = none) := by
          cases h1 : numberD x with
          | none => exact .inl rfl
          | some a => cases h2 : numberD y with
            | none => exact .inr rfl
            | some b => exact absurd ⟨a, b, h1, h2⟩ both
        have h1 := fun w => number_any x w hx
        have h2 := fun w => number_any y w hy
        obtain ⟨tx, htx⟩ : ∃ tx, (numberD x).isSome = tx := ⟨_, rfl⟩
        obtain ⟨ty, hty⟩ : ∃ ty, (numberD y).isSome = ty := ⟨_, rfl⟩
        have htt : (tx && ty) = false := by
          rw [← htx, ← hty]
          rcases HX.out with h | h <;> rw [h] <;> simp
        clear both ho
        go_wp2_with fail
        refine (h1 _).mono ?_
        rintro e w' ⟨⟨v1, rfl, _⟩, hw⟩
        rw [hw]
        clear hw
        go_wp2_with fail
        refine (h2 _).mono ?_
        rintro e w' ⟨⟨v2, rfl, _⟩, hw⟩
        rw [hw]
        clear hw h1 h2
        simp only [hty]
        clear htx hty
        cases tx <;> cases ty
        case true.true => cases htt
        all_goals
          go_wp2
          go_roundw
          case rel => obtain ⟨hK', hB'⟩ := HB.out; exact ⟨1, by simp, hK', hB', .inr (.inl ⟨rfl, HX.out⟩)⟩
          case measure => simp [intOf]
    · have hk := hK.cell
      obtain ⟨k0, k1, k2, k3⟩ := hk
      obtain ⟨n1, hn1⟩ : ∃ n1, wr.heap.size = n1 := ⟨_, rfl⟩
      have hB' : Below w.heap.size w (wr.alloc (.cells #[.func (.func 35) #[] #[], .func (.func 36) #[] #[]] 63)) := hB.trans ((Below.refl _ _).alloc hB.size _)
      have hK' : Kinds g (wr.alloc (.cells #[.func (.func 35) #[] #[], .func (.func 36) #[] #[]] 63)) := (Below.heap_alloc _ _ _ (Array.getElem?_eq_some_iff.1 hK).1).trans hK
      have HB := hide (And.intro hK' hB')
      clear hK hB hK' hB'
      by_cases both : ∃ a b, letterD x = some a ∧ letterD y = some b
      · obtain ⟨a, b, hX, hZ⟩ := both
        have HO : Hid (o = some (a, b, true)) := by
          show o = _
          rw [ho]; rcases hn with h | h <;> cases h1 : numberD x <;> cases h2 : numberD y <;> simp_all
        have h1 := fun w => letter_any x w hx
        have h2 := fun w => letter_any y w hy
        rw [hX] at h1
        rw [hZ] at h2
        clear hX hZ ho hn
        go_wp2_with fail
        refine (h1 _).mono ?_
        rintro e w' ⟨hr, hw⟩
        rw [readOut_some hr, hw]
        clear hr hw
        go_wp2_with fail
        refine (h2 _).mono ?_
        rintro e w' ⟨hr, hw⟩
        rw [readOut_some hr, hw]
        clear hr hw h1 h2
        go_wp2_with fail
        refine (row_any a b 36 _).mono ?_
        rintro e w9 ⟨rfl, l9, r0, r1, r2, r3⟩
        have HR := hide (And.intro l9 (And.intro r0 (And.intro r1 (And.intro r2 r3))))
        clear l9 r0 r1 r2 r3
        have hz : (wr.alloc (.cells #[.func (.func 35) #[] #[], .func (.func 36) #[] #[]] 63)).heap.size = n1 + 1 := by rw [World.size_alloc, hn1]
        have HZ := hide hz
        have HN1 := hide hn1
        clear hz hn1
        go_wp2
        go_ret2
        obtain ⟨l9, r0, r1, r2, r3⟩ := HR.out
        have hs := HB.out.2.size
        have hs2 := hs
        rw [World.size_alloc] at r0 r1 r2 r3 hs2
        rw [HO.out]
        refine ⟨⟨_, _, _, _, rfl, ⟨r0, r2, r1, r3⟩, ?_, ?_, ?_, ?_⟩, HB.out.2.trans (l9.mono hs)⟩ <;> omega
      · have HX : Hid (letterD x = none ∨ letterD y = none) := by
          cases h1 : letterD x with
          | none => exact .inl rfl
          | some a => cases h2 : letterD y with
            | none => exact .inr rfl
            | some b => exact absurd ⟨a, b, h1, h2⟩ both
        have h1 := fun w => letter_any x w hx
        have h2 := fun w => letter_any y w hy
        obtain ⟨tx, htx⟩ : ∃ tx, (letterD x).isSome = tx := ⟨_, rfl⟩
        obtain ⟨ty, hty⟩ : ∃ ty, (letterD y).isSome = ty := ⟨_, rfl⟩
        have htt : (tx && ty) = false := by
          rw [← htx, ← hty]
          rcases HX.out with h | h <;> rw [h] <;> simp
        clear both ho
        have HN := hide hn
        clear hn
        go_wp2_with fail
        refine (h1 _).mono ?_
        rintro e w' ⟨⟨v1, rfl, _⟩, hw⟩
        rw [hw]
        clear hw
        go_wp2_with fail
        refine (h2 _).mono ?_
        rintro e w' ⟨⟨v2, rfl, _⟩, hw⟩
        rw [hw]
        clear hw h1 h2
        simp only [hty]
        clear htx hty
        cases tx <;> cases ty
        case true.true => cases htt
        all_goals
          go_wp2
          go_roundw
          case rel => obtain ⟨hK', hB'⟩ := HB.out; exact ⟨2, by simp, hK', hB', .inr (.inr ⟨rfl, HN.out, HX.out⟩)⟩
          case measure => simp [intOf]
    · have HO : Hid (o = none) := by
        rw [ho]
        rcases hn with h | h <;> rcases hl with h2 | h2 <;> rw [h, h2] <;> cases numberD x <;> cases numberD y <;> cases letterD x <;> cases letterD y <;> simp_all [Hid]
      go_wp2
      go_ret2
      rw [HO.out]
      exact ⟨rfl, hB⟩
theorem row_none {x : List UInt8} : (match numberD x, numberD [] with
    | some a, some b => some (a, b, false)
    | _, _ => match letterD x, letterD [] with
      | some a, some b => some (a, b, true)
      | _, _ => (none : Option (Int × Int × Bool))) = none := by
  have h1 : numberD [] = none := by decide
  have h2 : letterD [] = none := rfl
  rw [h1, h2]
  cases numberD x <;> cases letterD x <;> rfl
theorem row_of {s x y : List UInt8} (h : dotsD s = some (x, y)) : rowD s = match numberD x, numberD y with
    | some a, some b => some (a, b, false)
    | _, _ => match letterD x, letterD y with
      | some a, some b => some (a, b, true)
      | _, _ => none := by
  unfold rowD
  rw [h]
  dsimp only
  rcases numberD x with _ | a <;> rcases numberD y with _ | b <;> rcases letterD x with _ | c <;> rcases letterD y with _ | d <;> rfl
theorem rowTexts_any (s : List UInt8) (hs : s.length ≤ 1000000) (w : World) (hG : GW w) : Calls Tryd.prog 26 #[.string (bs s)] w fun e w' => RowV w.heap.size (rowD s) e w' ∧ Below w.heap.size w w' := by
  have hc : ∀ (w : World), GW w → Calls Tryd.prog 32 #[.string (bs s), .string ⟨#[46, 46]⟩] w fun e w' => e = .returned (.tuple #[.string (bs (Lib.cut s [46, 46]).1), .string (bs (Lib.cut s [46, 46]).2.1), .bool (Lib.cut s [46, 46]).2.2]) ∧ Below w.heap.size w w' := by
    intro w hG
    obtain ⟨m, hm⟩ := hG.maxw
    refine (Tryd.strings_Cut (bs s) ⟨#[46, 46]⟩ m w (by rw [bs_size]; omega) hm).mono ?_
    rintro e w' ⟨he, n, rfl⟩
    exact ⟨he, rfl, rfl, rfl, Nat.le_refl _, fun _ _ => rfl⟩
  rcases cut_dots s with ⟨h1, h2⟩ | ⟨x, y, h1, h2, h3⟩
  · rw [h2] at hc
    refine rowTexts_pair s s [] false hs (by simp) w _ hc hG ?_
    rw [row_none]
    unfold rowD
    rw [h1]
  · rw [h2] at hc
    have hl := congrArg List.length h3
    simp at hl
    refine rowTexts_pair s x y true (by omega) (by omega) w _ hc hG ?_
    exact row_of h1
theorem number_bound {l : List UInt8} {a : Int} (h : numberD l = some a) : -1000000 ≤ a ∧ a ≤ 1000000 := by
  have key : ∀ r, digitsOK r = true → 0 ≤ digV r ∧ digV r < 1000000 := fun r hr => by
    rw [digitsOK_iff, Bool.and_eq_true] at hr
    exact digV_small (List.all_eq_true.1 hr.1) (by have := hr.2; simp at this; omega)
  unfold numberD at h
  split at h
  · split at h
    · rename_i hr
      have := key _ hr
      cases h
      omega
    · cases h
  · split at h
    · rename_i hr
      have := key _ hr
      cases h
      omega
    · cases h
theorem letter_bound {l : List UInt8} {a : Int} (h : letterD l = some a) : 0 ≤ a ∧ a < 256 := by
  unfold letterD at h
  split at h
  · rename_i c
    have := c.toNat_lt
    split at h
    · cases h; omega
    · cases h
  · cases h
theorem row_bound {s : List UInt8} {a b : Int} {l : Bool} (h : rowD s = some (a, b, l)) : (-1000000 ≤ a ∧ a ≤ 1000000) ∧ (-1000000 ≤ b ∧ b ≤ 1000000) ∧ (l = true → (0 ≤ a ∧ a < 256) ∧ (0 ≤ b ∧ b < 256)) := by
  unfold rowD at h
  split at h
  · cases h
  · split at h
    · rename_i h1 h2
      cases h
      exact ⟨number_bound h1, number_bound h2, fun e => by cases e⟩
    · split at h
      · rename_i h1 h2
        cases h
        have := letter_bound h1
        have := letter_bound h2
        exact ⟨by omega, by omega, fun _ => ⟨by omega, by omega⟩⟩
      · cases h
/-- A group's closure lies there; its blocks are D's. -/
def MidAt (D : Nat → Prop) (s : List UInt8) (m : MidD) (v : Value) (W : World) : Prop := match m with
  | .list ps => ∃ b, v = .func (.func 31) #[] #[.pointer (some ⟨b, 0, none⟩)] ∧ Boxed W b 9 (.string (bs s)) ∧ D b ∧ ps = piecesB s ∧ s.length ≤ 1000000
  | .row x y l => ∃ f1 f2 f3 f4, v = .func (.func 44) #[] #[.pointer (some ⟨f1, 0, none⟩), .pointer (some ⟨f2, 0, none⟩), .pointer (some ⟨f3, 0, none⟩), .pointer (some ⟨f4, 0, none⟩)] ∧ RowAt x y l f1 f2 f3 f4 W ∧ D f1 ∧ D f2 ∧ D f3 ∧ D f4 ∧
      (-1000000 ≤ x ∧ x ≤ 1000000) ∧ (-1000000 ≤ y ∧ y ≤ 1000000) ∧ (l = true → (0 ≤ x ∧ x < 256) ∧ (0 ≤ y ∧ y < 256))
theorem MidAt.keep {D : Nat → Prop} {s : List UInt8} {m : MidD} {v : Value} {W W' : World} (h : MidAt D s m v W) (hk : ∀ k, D k → k < W.heap.size → W'.heap[k]? = W.heap[k]?) : MidAt D s m v W' := by
  cases m with
  | list ps =>
    obtain ⟨b, h1, h2, h3, h4⟩ := h
    exact ⟨b, h1, (hk b h3 h2.lt).trans h2, h3, h4⟩
  | row x y l =>
    obtain ⟨f1, f2, f3, f4, h1, h2, d1, d2, d3, d4, h3⟩ := h
    exact ⟨f1, f2, f3, f4, h1, ⟨(hk _ d1 h2.b1.lt).trans h2.b1, (hk _ d2 h2.b2.lt).trans h2.b2, (hk _ d3 h2.b3.lt).trans h2.b3, (hk _ d4 h2.b4.lt).trans h2.b4⟩, d1, d2, d3, d4, h3⟩
theorem MidAt.mono {D D' : Nat → Prop} {s : List UInt8} {m : MidD} {v : Value} {W : World} (h : MidAt D s m v W) (hk : ∀ k, D k → k < W.heap.size → D' k) : MidAt D' s m v W := by
  cases m with
  | list ps =>
    obtain ⟨b, h1, h2, h3, h4⟩ := h
    exact ⟨b, h1, h2, hk b h3 h2.lt, h4⟩
  | row x y l =>
    obtain ⟨f1, f2, f3, f4, h1, h2, d1, d2, d3, d4, h3⟩ := h
    exact ⟨f1, f2, f3, f4, h1, h2, hk _ d1 h2.b1.lt, hk _ d2 h2.b2.lt, hk _ d3 h2.b3.lt, hk _ d4 h2.b4.lt, h3⟩
theorem MidAt.form {D : Nat → Prop} {s : List UInt8} {m : MidD} {v : Value} {W : World} (h : MidAt D s m v W) : ∃ f lb, v = .func (.func f) #[] lb := by
  cases m with
  | list ps => obtain ⟨b, h1, _⟩ := h; exact ⟨_, _, h1⟩
  | row x y l => obtain ⟨f1, f2, f3, f4, h1, _⟩ := h; exact ⟨_, _, h1⟩
def GroupV (n0 : Nat) (s : List UInt8) (o : Option MidD) (e : Ending) (w' : World) : Prop := match o with
  | none => e = .returned (.tuple #[.nilFunc, .bool false])
  | some m => ∃ v, e = .returned (.tuple #[v, .bool true]) ∧ MidAt (fun k => n0 ≤ k) s m v w'
set_option maxRecDepth 100000 in
set_option maxHeartbeats 1000000 in
theorem groupTexts_any (s : List UInt8) (hs : s.length ≤ 1000000) (w : World) (hG : GW w) : Calls Tryd.prog 17 #[.string (bs s)] w fun e w' => GroupV w.heap.size s (midD s) e w' ∧ Below w.heap.size w w' := by
  have h1 := isList_any s hs w
  by_cases hl : 1 < (piecesB s).length
  · have hm : midD s = some (.list (piecesB s)) := if_pos hl
    rw [decide_eq_true hl] at h1
    have HM := hide hm
    clear hm hl
    go_enter Tryd.func17, Tryd.ntmps17
    go_wp2_with fail
    refine h1.mono ?_
    rintro e w2 ⟨rfl, hB2⟩
    go_wp2_with fail
    refine (listTexts_any _ _).mono ?_
    rintro e w3 ⟨rfl, hw⟩
    rw [hw]
    clear hw
    go_wp2
    go_ret2
    rw [HM.out]
    exact ⟨⟨_, rfl, w2.heap.size, rfl, Boxed.new _ _ _, hB2.size, rfl, hs⟩, hB2.trans ((Below.refl _ _).alloc hB2.size _)⟩
  · have hm : midD s = (rowD s).map fun (a, b, l) => .row a b l := if_neg hl
    rw [decide_eq_false hl] at h1
    have HM := hide hm
    clear hm hl
    go_enter Tryd.func17, Tryd.ntmps17
    go_wp2_with fail
    refine h1.mono ?_
    rintro e w2 ⟨rfl, hB2⟩
    go_wp2_with fail
    refine (rowTexts_any s hs w2 (hG.below hB2 (by have := hG.lt; omega))).mono ?_
    rintro e w3 ⟨hr, hB3⟩
    cases ho : rowD s with
    | none =>
      rw [ho] at hr
      have hr : e = .returned (.tuple #[.nilFunc, .bool false]) := hr
      rw [hr]
      have HO := hide ho
      clear ho hr h1
      go_wp2
      go_ret2
      rw [HM.out, HO.out]
      exact ⟨rfl, hB2.trans (hB3.mono hB2.size)⟩
    | some z =>
      obtain ⟨a, b, l⟩ := z
      rw [ho] at hr
      obtain ⟨f1, f2, f3, f4, he, hR, g1, g2, g3, g4⟩ := hr
      rw [he]
      have hbd := row_bound ho
      have HO := hide (And.intro ho (And.intro hR (And.intro hbd (And.intro g1 (And.intro g2 (And.intro g3 g4))))))
      clear ho he h1 hR g1 g2 g3 g4 hbd
      go_wp2
      go_ret2
      obtain ⟨ho, hR, hbd, g1, g2, g3, g4⟩ := HO.out
      have hs2 := hB2.size
      rw [HM.out, ho]
      exact ⟨⟨_, rfl, f1, f2, f3, f4, rfl, hR, Nat.le_trans hs2 g1, Nat.le_trans hs2 g2, Nat.le_trans hs2 g3, Nat.le_trans hs2 g4, hbd⟩, hB2.trans (hB3.mono hs2)⟩
end Go.Proofs.YtgpgbobmpdgfeaaDoor
