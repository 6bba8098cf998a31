/- The document's reader: times. -/
import Derived.Test.YtdlljlmgoiobpaaGreatDoorDaB
import Derived.Test.YtdlljlmgoiobpaaGreatDoorDaC
import Derived.Laws.AppendOwnNone
import Derived.Test.YtdlljlmgoiobpaaGreatDoorErQ
namespace Go.Proofs.YtdlljlmgoiobpaaGreatDoor
open Go.RowKit Go.Maps
theorem x_ret {fn : Func} {g kc kt : Nat} {W : World} {op : Int} {st : ByteArray} {ka : Option Addr} {m c : Nat} {n : Int} {a : Act} {R : Ending → World → Prop} (hr : fn.results = #[.cell kc 32, .tmp kt]) (ha : a.tmps[kc]? = some (.pointer (some ⟨g, 0, none⟩))) (hn : a.tmps[kt]? = some (.int .i64 n)) (hd : a.defers = []) (h : XB W g op st ka m c) (hR : R (.returned (.tuple #[.agg #[.int .i64 op, .string st, .slice ka m c], .int .i64 n])) W) : bodyPost Tryz.prog fn R .ret a W := by
  obtain ⟨c0, c1, c2, cf, cl⟩ := h.cells
  refine bodyPost_ret (v := .tuple #[.agg #[.int .i64 op, .string st, .slice ka m c], .int .i64 n]) ?_ hd hR
  simp [results, hr, go_sem, ha, hn, c0, c1, c2]
theorem XB.drew {W : World} {g : Nat} {op : Int} {st : ByteArray} {ka : Option Addr} {m c : Nat} (h : XB W g op st ka m c) : XB W.drew g op st ka m c := h
def xV (op : Int) (st : ByteArray) (ka : Option Addr) (m c : Nat) (n : Int) : Value := .tuple #[.agg #[.int .i64 op, .string st, .slice ka m c], .int .i64 n]
def RTimP (b : Nat) (s : ByteArray) (at_ d n : Int) (o : Res TimesD) (w : World) (e : Ending) (w' : World) : Prop := FrE b w w' ∧ ∃ (op : Int) (st : ByteArray) (ka : Option Addr) (m c : Nat) (n' : Int), e = .returned (xV op st ka m c n') ∧ match o with
  | .bad r => n' = 0 ∧ r ≠ 0 ∧ ∃ i' at', EB w' b s i' (r : Int) at' d
  | .ok t j => EB w' b s (j : Int) 0 at_ d ∧ 0 ≤ n' ∧ n' ≤ 1001 ∧ min n' 1001 = min (n * copiesD t) 1001
theorem countD_bad {l : List UInt8} {i r : Nat} (h : numD l i 0 = .bad r) : countD l i = .bad r := by unfold countD; rw [h]
theorem countD_open {l : List UInt8} {i j : Nat} {n : Int} (h : numD l i 0 = .ok n j) (hc : l[j]? = some 44) (hd : l[j + 1]? = some 125) : countD l i = .ok ⟨n, n, true⟩ (j + 2) := by unfold countD; rw [h]; simp only; rw [if_pos hc, if_pos hd]
theorem countD_two {l : List UInt8} {i j r : Nat} {n : Int} (h : numD l i 0 = .ok n j) (hc : l[j]? = some 44) (hd : ¬ l[j + 1]? = some 125) (h2 : numD l (j + 1) n = .bad r) : countD l i = .bad r := by unfold countD; rw [h]; simp only; rw [if_pos hc, if_neg hd, h2]
theorem countD_both {l : List UInt8} {i j k : Nat} {n m : Int} (h : numD l i 0 = .ok n j) (hc : l[j]? = some 44) (hd : ¬ l[j + 1]? = some 125) (h2 : numD l (j + 1) n = .ok m k) : countD l i = if l[k]? = some 125 then .ok ⟨n, m, false⟩ (k + 1) else .bad 2 := by unfold countD; rw [h]; simp only; rw [if_pos hc, if_neg hd, h2]
theorem countD_one {l : List UInt8} {i j : Nat} {n : Int} (h : numD l i 0 = .ok n j) (hc : ¬ l[j]? = some 44) : countD l i = if l[j]? = some 125 then .ok ⟨n, n, false⟩ (j + 1) else .bad 2 := by unfold countD; rw [h]; simp only; rw [if_neg hc]
/-- Where the } is looked for. -/
def TimC (l : List UInt8) (i : Nat) (b : Nat) (s : ByteArray) (at_ d : Int) (av bv ov : Value) (W : World) : Prop :=
  (∃ (x y : Int) (z : Bool) (r : Nat) (i' at' : Int), av = .int .i64 x ∧ bv = .int .i64 y ∧ ov = .bool z ∧ r ≠ 0 ∧ countD l i = .bad r ∧ EB W b s i' (r : Int) at' d) ∨
  (∃ (x y q : Nat) (z : Bool), av = .int .i64 (x : Int) ∧ bv = .int .i64 (y : Int) ∧ ov = .bool z ∧ x ≤ y ∧ y ≤ 255 ∧ q ≤ l.length ∧ countD l i = (if l[q]? = some 125 then .ok ⟨x, y, z⟩ (q + 1) else .bad 2) ∧ EB W b s (q : Int) 0 at_ d)
set_option maxRecDepth 100000 in
set_option maxHeartbeats 2000000 in
theorem times_any (b : Nat) (s : ByteArray) (i : Nat) (at_ d : Int) (op : Int) (st : ByteArray) (ka : Option Addr) (m c : Nat) (n : Int) (w : World) (h : EB w b s (i : Int) 0 at_ d) (hi : i ≤ s.size) (hs : s.size ≤ 200) (hn : 0 ≤ n ∧ n ≤ 1000000) :
    Calls Tryz.prog 42 #[.pointer (some ⟨b, 0, none⟩), .agg #[.int .i64 op, .string st, .slice ka m c], .int .i64 n] w (RTimP b s at_ d n (countD s.data.toList i) w) := by
  have hsl : s.data.toList.length = s.size := by simp
  have hb : b < w.heap.size := (Array.getElem?_eq_some_iff.1 h).1
  obtain ⟨W0, hW0⟩ : ∃ W0, (w.alloc (.cells #[.int .i64 op, .string st, .slice ka m c] 32)).alloc (.cells #[.int .i64 0, .string ⟨#[]⟩, .slice none 0 0] 32) = W0 := ⟨_, rfl⟩
  have h0 : EB W0 b s (i : Int) 0 at_ d := by rw [← hW0]; exact (h.alloc _).alloc _
  have x0 : XB W0 w.heap.size op st ka m c := by rw [← hW0]; exact (XB.new w op st ka m c).all (fun x => FrE.alloc x _ _)
  have y0 : XB W0 (w.heap.size + 1) 0 ⟨#[]⟩ none 0 0 := by
    rw [← hW0]
    have := XB.new (w.alloc (.cells #[.int .i64 op, .string st, .slice ka m c] 32)) 0 ⟨#[]⟩ none 0 0
    rw [World.size_alloc] at this
    exact this
  have f0 : FrE b w W0 := by rw [← hW0]; exact (FrE.alloc _ _ _).trans (FrE.alloc _ _ _)
  have hnm := rnum_any b s i at_ d 0 W0 h0 hi hs (by decide)
  obtain ⟨O, hO⟩ : ∃ O, countD s.data.toList i = O := ⟨_, rfl⟩
  rw [hO]
  have H0 := hide (⟨x0, y0, f0, hsl, hO⟩ : _ ∧ _ ∧ _ ∧ _ ∧ _)
  clear h h0 x0 y0 f0 hsl hO
  have hg0 : w.heap.size ≠ b := by omega
  have hg1 : w.heap.size + 1 ≠ b := by omega
  go_enter Tryz.func42, Tryz.ntmps42
  go_wp2_with fail
  refine hnm.mono ?_
  rintro e w1 ⟨f1, hp⟩
  obtain ⟨x0, y0, f0, hsl, hO⟩ := H0.out
  have x1 := x0.keep f1 hg0
  have y1 := y0.keep f1 hg1
  have F1 := f0.trans f1
  clear H0 hnm hW0
  obtain ⟨R0, hR0⟩ : ∃ R0, numD s.data.toList i 0 = R0 := ⟨_, rfl⟩
  rw [hR0] at hp
  cases R0 with
  | bad r =>
    obtain ⟨hr23, n1, i1, at1, rfl, r1, _, _⟩ := hp
    have hcd : O = .bad r := by rw [← hO]; exact countD_bad hR0
    have hr0 : (r : Int) ≠ 0 := by omega
    have hrb : ((r : Int) != 0) = true := by rw [bne_iff_ne]; exact hr0
    have hi1 := fun c => is_no b s i1 r at1 d c w1 r1 hr0
    have r1d := r1.drew
    have hi2 := fun c => is_no b s i1 r at1 d c w1.drew r1d hr0
    have hf2 := fail_no b s i1 r at1 d 2 i1 w1.drew.drew r1d.drew hr0
    obtain ⟨e0, e1, e2, e3, e4, ef, el⟩ := r1.cells
    obtain ⟨z0, z1, z2, zf, zl⟩ := y1.cells
    have H1 := hide (⟨x1, y1, F1, r1, hcd, hr23⟩ : _ ∧ _ ∧ _ ∧ _ ∧ _ ∧ _)
    clear x1 y1 F1 r1 hcd hr23 x0 y0 f0 f1 hsl hO hR0 r1d ef e3 e4 hr0
    go_wp2_with fail
    refine (hi1 44).mono ?_
    rintro e w2 ⟨rfl, hw⟩
    rw [hw]
    clear hw
    go_wp2_with fail
    refine (hi2 125).mono ?_
    rintro e w2 ⟨rfl, hw⟩
    rw [hw]
    clear hw
    go_wp2_with fail
    refine hf2.mono ?_
    rintro e w2 ⟨rfl, hw⟩
    rw [hw]
    clear hw
    go_wp2
    obtain ⟨x1, y1, F1, r1, hcd, hr23⟩ := H1.out
    rw [hcd]
    have y2 : XB w1.drew.drew (w.heap.size + 1) 0 ⟨#[]⟩ none 0 0 := y1
    have fs := set3x_fr w1.drew.drew (w.heap.size + 1) 0 ⟨#[]⟩ none 0 0
    have F2 := F1.drew.drew.own (by omega) fs
    have r2 := EB.own (W := w1.drew.drew) r1 fs (by omega)
    exact x_ret rfl rfl rfl rfl (y2.set3x 0 ⟨#[]⟩ none 0 0) ⟨F2, _, _, _, _, _, _, rfl, rfl, by omega, _, _, r2⟩
  | ok n1 j =>
    obtain ⟨rfl, r1⟩ := hp
    obtain ⟨hij, hj, hn0, hn255⟩ := numD_goes (by rw [hsl]; exact hi) hR0
    obtain ⟨x, rfl⟩ := Int.eq_ofNat_of_zero_le hn0
    have hcm := is_ok b s j at_ d 44 w1 r1
    have H1 := hide (⟨x1, y1, F1, r1, hsl, hO, hR0, hij, hj, hn255⟩ : _ ∧ _ ∧ _ ∧ _ ∧ _ ∧ _ ∧ _ ∧ _ ∧ _ ∧ _)
    clear x1 y1 F1 r1 x0 y0 f0 f1 hsl hO hR0 hij hj hn0 hn255
    go_wp2_with fail
    refine hcm.mono ?_
    rintro e w2 ⟨rfl, hw⟩
    rw [hw]
    clear hw hcm
    go_upto_if 18 with fail
    go_cut [8, 9, 10] from 14 (fun av bv ov wx => TimC s.data.toList i b s at_ d av bv ov wx ∧ FrE b w wx ∧ XB wx w.heap.size op st ka m c ∧ XB wx (w.heap.size + 1) 0 ⟨#[]⟩ none 0 0)
    case first =>
      obtain ⟨x1, y1, F1, r1, hsl, hO, hR0, hij, hj, hn255⟩ := H1.out
      by_cases c44 : s.data.toList[j]? = some 44
      · have hB : isB s.data.toList j 44 = true := by unfold isB; rw [c44]; rfl
        rw [hB]
        clear hB
        have hj1 : j + 1 ≤ s.size := by have := (List.getElem?_eq_some_iff.1 c44).1; omega
        have r2 : EB (w1.drew.setCell ⟨b, 1, none⟩ (.int .i64 ((j : Int) + 1))) b s ((j + 1 : Nat) : Int) 0 at_ d := EB.set1 (W := w1.drew) r1 ((j : Int) + 1)
        have f12 : FrE b w1.drew (w1.drew.setCell ⟨b, 1, none⟩ (.int .i64 ((j : Int) + 1))) := FrE.set b _ 1 _
        have hop := is_ok b s (j + 1) at_ d 125 _ r2
        obtain ⟨e0, e1, e2, e3, e4, ef, el⟩ := r1.cells
        have H2 := hide (⟨XB.keep (W := w1.drew) x1 f12 hg0, XB.keep (W := w1.drew) y1 f12 hg1, F1.drew.trans f12, r2, c44⟩ : _ ∧ _ ∧ _ ∧ _ ∧ _)
        have H1' := hide (⟨hsl, hR0, hij, hj, hn255⟩ : _ ∧ _ ∧ _ ∧ _ ∧ _)
        clear x1 y1 F1 r1 hsl hO hR0 hij hj hn255 r2 f12 c44 H1 e2 e3 e4
        go_wp2_with fail
        refine hop.mono ?_
        rintro e w3 ⟨rfl, hw⟩
        rw [hw]
        clear hw hop e0 e1 ef el
        obtain ⟨x2, y2, F2, r2, c44⟩ := H2.out
        obtain ⟨hsl, hR0, hij, hj, hn255⟩ := H1'.out
        obtain ⟨W2, hW2⟩ : ∃ W2, w1.drew.setCell ⟨b, 1, none⟩ (.int .i64 ((j : Int) + 1)) = W2 := ⟨_, rfl⟩
        rw [hW2] at x2 y2 F2 r2 ⊢
        clear H2 H1' hW2
        by_cases c125 : s.data.toList[j + 1]? = some 125
        · have hB2 : isB s.data.toList (j + 1) 125 = true := by unfold isB; rw [c125]; rfl
          rw [hB2]
          clear hB2
          have hlt := (List.getElem?_eq_some_iff.1 c125).1
          have H2 := hide (⟨x2, y2, F2, r2, c44, hsl, hR0, hij, hj, hn255, c125, hlt⟩ : _ ∧ _ ∧ _ ∧ _ ∧ _ ∧ _ ∧ _ ∧ _ ∧ _ ∧ _ ∧ _ ∧ _)
          clear x2 y2 F2 r2 c44 hsl hR0 hij hj hn255 c125 hlt
          go_wp2
          go_meet
          case rel =>
            obtain ⟨x2, y2, F2, r2, c44, hsl, hR0, hij, hj, hn255, c125, hlt⟩ := H2.out
            refine ⟨.inr ⟨x, x, j + 1, true, rfl, rfl, rfl, Nat.le_refl _, by omega, by omega, ?_, r2⟩, F2.drew, x2, y2⟩
            rw [countD_open hR0 c44 c125, if_pos c125]
        · have hB2 : isB s.data.toList (j + 1) 125 = false := by unfold isB; rw [beq_eq_false_iff_ne]; exact c125
          rw [hB2]
          clear hB2
          have hn2 := rnum_any b s (j + 1) at_ d (x : Int) W2.drew r2 hj1 hs (by omega)
          have H2 := hide (⟨x2, y2, F2, c44, hsl, hR0, hij, hj, hn255, c125⟩ : _ ∧ _ ∧ _ ∧ _ ∧ _ ∧ _ ∧ _ ∧ _ ∧ _ ∧ _)
          clear x2 y2 F2 r2 c44 hsl hR0 hij hj hn255 c125
          go_wp2_with fail
          refine hn2.mono ?_
          obtain ⟨R1, hR1⟩ : ∃ R1, numD s.data.toList (j + 1) (x : Int) = R1 := ⟨_, rfl⟩
          rw [hR1]
          rintro e w4 ⟨f4, hp⟩
          have HR1 := hide hR1
          clear hR1 hn2
          cases R1 with
          | bad r =>
            obtain ⟨hr23, n2, i2, at2, rfl, r4, _, _⟩ := hp
            have H4 := hide (⟨r4, f4, hr23⟩ : _ ∧ _ ∧ _)
            clear r4 f4 hr23
            go_wp2
            go_meet
            case rel =>
              obtain ⟨x2, y2, F2, c44, hsl, hR0, hij, hj, hn255, c125⟩ := H2.out
              obtain ⟨r4, f4, hr23⟩ := H4.out
              have X4 := XB.keep (W := W2.drew) x2 f4 hg0
              have Y4 := XB.keep (W := W2.drew) y2 f4 hg1
              exact ⟨.inl ⟨x, n2, false, r, i2, at2, rfl, rfl, rfl, by omega, countD_two hR0 c44 c125 HR1.out, r4⟩, F2.drew.trans f4, X4, Y4⟩
          | ok m2 k2 =>
            obtain ⟨rfl, r4⟩ := hp
            have H4 := hide (⟨r4, f4⟩ : _ ∧ _)
            clear r4 f4
            go_wp2
            go_meet
            case rel =>
              obtain ⟨x2, y2, F2, c44, hsl, hR0, hij, hj, hn255, c125⟩ := H2.out
              obtain ⟨r4, f4⟩ := H4.out
              obtain ⟨g1, g2, g3, g4⟩ := numD_goes (by rw [hsl]; exact hj1) HR1.out
              obtain ⟨y, rfl⟩ := Int.eq_ofNat_of_zero_le (a := m2) (by omega)
              have X4 := XB.keep (W := W2.drew) x2 f4 hg0
              have Y4 := XB.keep (W := W2.drew) y2 f4 hg1
              have hcd := countD_both hR0 c44 c125 HR1.out
              exact ⟨.inr ⟨x, y, k2, false, rfl, rfl, rfl, by omega, by omega, g2, hcd, r4⟩, F2.drew.trans f4, X4, Y4⟩
      · have hB : isB s.data.toList j 44 = false := by unfold isB; rw [beq_eq_false_iff_ne]; exact c44
        rw [hB]
        clear hB
        have H2 := hide (⟨x1, y1, F1, r1, c44, hR0, hn255, hj⟩ : _ ∧ _ ∧ _ ∧ _ ∧ _ ∧ _ ∧ _ ∧ _)
        clear x1 y1 F1 r1 hsl hO hR0 hij hj hn255 c44 H1
        go_wp2
        go_meet
        case rel =>
          obtain ⟨x1, y1, F1, r1, c44, hR0, hn255, hj⟩ := H2.out
          have hcd := countD_one hR0 c44
          exact ⟨.inr ⟨x, x, j, false, rfl, rfl, rfl, Nat.le_refl _, by omega, hj, hcd, r1⟩, F1.drew, x1, y1⟩
    case rest =>
      obtain ⟨hT, hf, hx, hy⟩ := hcut
      have hO := H1.out.2.2.2.2.2.1
      clear H1
      rcases hT with ⟨x', y', z', r, i', at', rfl, rfl, rfl, hr0, hcd, hE⟩ | ⟨x', y', q, z', rfl, rfl, rfl, hxy, hy255, hq, hcd, hE⟩
      · rw [hcd] at hO
        subst hO
        have hrI : (r : Int) ≠ 0 := by omega
        have hrb : ((r : Int) != 0) = true := by rw [bne_iff_ne]; exact hrI
        have hi2 := is_no b s i' r at' d 125 wc hE hrI
        have hf2 := fail_no b s i' r at' d 2 i' wc.drew hE.drew hrI
        obtain ⟨e0, e1, e2, e3, e4, ef, el⟩ := hE.cells
        obtain ⟨z0, z1, z2, zf, zl⟩ := hy.cells
        have H2 := hide (⟨hf, hy, hE⟩ : _ ∧ _ ∧ _)
        clear hf hx hy hE hcd hrI
        go_wp2_with fail
        refine hi2.mono ?_
        rintro e w2 ⟨rfl, hw⟩
        rw [hw]
        clear hw
        go_wp2_with fail
        refine hf2.mono ?_
        rintro e w2 ⟨rfl, hw⟩
        rw [hw]
        clear hw
        go_wp2
        obtain ⟨hf, hy, hE⟩ := H2.out
        have y2 := XB.drew hy
        have fs := set3x_fr wc.drew (w.heap.size + 1) 0 ⟨#[]⟩ none 0 0
        have F2 := hf.drew.own (by omega) fs
        have r2 := hE.drew.own fs (by omega)
        exact x_ret rfl rfl rfl rfl (y2.set3x 0 ⟨#[]⟩ none 0 0) ⟨F2, _, _, _, _, _, _, rfl, rfl, hr0, _, _, r2⟩
      · have hsz : q ≤ s.size := by simpa using hq
        have hi2 := is_ok b s q at_ d 125 wc hE
        by_cases c125 : s.data.toList[q]? = some 125
        · rw [if_pos c125] at hcd
          rw [hcd] at hO
          subst hO
          have hB : isB s.data.toList q 125 = true := by unfold isB; rw [c125]; rfl
          rw [hB] at hi2
          obtain ⟨e0, e1, e2, e3, e4, ef, el⟩ := hE.cells
          obtain ⟨W3, hW3⟩ : ∃ W3, wc.drew.setCell ⟨b, 1, none⟩ (.int .i64 ((q : Int) + 1)) = W3 := ⟨_, rfl⟩
          have f3 : FrE b wc.drew W3 := by rw [← hW3]; exact FrE.set b _ 1 _
          have E3 : EB W3 b s ((q + 1 : Nat) : Int) 0 at_ d := by rw [← hW3]; exact EB.set1 (W := wc.drew) hE ((q : Int) + 1)
          have x3 : XB W3 w.heap.size op st ka m c := XB.keep (W := wc.drew) hx f3 hg0
          have y3 : XB W3 (w.heap.size + 1) 0 ⟨#[]⟩ none 0 0 := XB.keep (W := wc.drew) hy f3 hg1
          have F3 := hf.drew.trans f3
          obtain ⟨a0, a1, a2, af, al⟩ := x3.cells
          obtain ⟨z0, z1, z2, zf, zl⟩ := y3.cells
          have H3 := hide (⟨F3, x3, y3, E3⟩ : _ ∧ _ ∧ _ ∧ _)
          clear hf hx hy hE hcd F3 x3 y3 E3 f3 hB c125
          obtain ⟨cp, hcp⟩ : ∃ cp, copiesD ⟨(x' : Int), (y' : Int), z'⟩ = cp := ⟨_, rfl⟩
          have hcp0 : 0 ≤ cp ∧ cp ≤ 256 := by rw [← hcp]; unfold copiesD; cases z' <;> simp <;> omega
          obtain ⟨pr, hpr⟩ : ∃ pr, cp * n = pr := ⟨_, rfl⟩
          have hpr0 : 0 ≤ pr := by rw [← hpr]; exact Int.mul_nonneg hcp0.1 hn.1
          have hpr1 : pr ≤ 256000000 := by
            rw [← hpr]
            have := Int.mul_le_mul hcp0.2 hn.2 hn.1 (by omega)
            omega
          have hwr : IntKind.i64.wrap pr = pr := by rw [IntKind.wrap_i64]; omega
          have hmin : min (n * copiesD ⟨(x' : Int), (y' : Int), z'⟩) 1001 = min pr 1001 := by rw [hcp, Int.mul_comm, hpr]
          have HQ := hide (⟨hcp, hpr, hpr0, hpr1, hwr, hmin, hcp0⟩ : _ ∧ _ ∧ _ ∧ _ ∧ _ ∧ _ ∧ _)
          clear hcp hpr hpr0 hpr1 hwr hmin hcp0
          go_wp2_with fail
          refine hi2.mono ?_
          rintro e w2 ⟨rfl, hw⟩
          rw [hw]
          clear hw hi2
          go_upto_if 56 with fail
          clear e0 e1 e2 e3 e4 ef el hW3
          go_cut [11] from 14 (fun v11 wx => v11 = .int .i64 cp ∧ wx = W3)
          case first =>
            have hcp := HQ.out.1
            have HQ2 := hide hcp
            clear hcp
            cases z' with
            | true =>
              go_wp2
              go_meet
              case rel => exact ⟨by rw [← HQ2.out]; rfl, rfl⟩
            | false =>
              go_wp2
              go_meet
              case rel => exact ⟨by rw [← HQ2.out]; rfl, rfl⟩
          case rest =>
            obtain ⟨rfl, hwx⟩ := hcut
            rw [hwx]
            clear hwx
            obtain ⟨hcp, hpr, hpr0, hpr1, hwr, hmin, hcp0⟩ := HQ.out
            have H4 := hide (⟨hcp, hpr0, hpr1, hmin, hcp0⟩ : _ ∧ _ ∧ _ ∧ _ ∧ _)
            clear hcp hpr0 hpr1 hmin hcp0 HQ
            by_cases hbig : 1000 < pr
            · go_wp2
              obtain ⟨F3, x3, y3, E3⟩ := H3.out
              have fs := set3x_fr W3 (w.heap.size + 1) 0 ⟨#[]⟩ none 0 0
              have F2 := F3.own (by omega) fs
              have r2 := E3.own fs (by omega)
              have hm := H4.out.2.2.2.1
              exact x_ret rfl rfl rfl rfl (y3.set3x 0 ⟨#[]⟩ none 0 0) ⟨F2, _, _, _, _, _, _, rfl, r2, by decide, by decide, by rw [hm]; omega⟩
            · have hmn := many_any op st ka m c x' (by omega) W3
              go_wp2_with fail
              refine hmn.mono ?_
              rintro e w4 ⟨⟨ka4, c4, xs4, rfl, own4, _⟩, f4⟩
              obtain ⟨F3, x3, y3, E3⟩ := H3.out
              have F4 := F3.trans (f4 b)
              have x4 := x3.all f4
              have y4 := y3.all f4
              have E4 := E3.all f4
              have hz3 : w.heap.size + 1 < W3.heap.size := y3.cells.2.2.2.2
              have own4' : w4.ownsRow (w.heap.size + 2) 32 3 (.slice ka4 x' c4) x' xs4 := own_base own4 (by omega)
              clear a0 a1 a2 af al z0 z1 z2 zf zl H3 own4 f4 F3 x3 y3 E3 hmn
              obtain ⟨a0, a1, a2, af, al⟩ := x4.cells
              have H5 := hide (⟨F4, x4, y4, E4⟩ : _ ∧ _ ∧ _ ∧ _)
              have HO := hide own4'
              clear F4 x4 y4 E4 own4'
              go_upto_if 67 with fail
              go_cut [12] from 14 (fun lv wx => ∃ (k5 : Option Addr) (n5 c5 : Nat) (xs5 : List Value), lv = .slice k5 n5 c5 ∧ n5 ≤ 300 ∧ wx.ownsRow (w.heap.size + 2) 32 3 (.slice k5 n5 c5) n5 xs5 ∧ FrE b w wx ∧ XB wx w.heap.size op st ka m c ∧ XB wx (w.heap.size + 1) 0 ⟨#[]⟩ none 0 0 ∧ EB wx b s ((q + 1 : Nat) : Int) 0 at_ d)
              case first =>
                cases z' with
                | true =>
                  obtain ⟨i0, hi0, z0, z1, z2⟩ := info_parts Tryz.info32
                  have hsz4 : w.heap.size + 2 ≤ w4.heap.size := by have := H5.out.2.2.1.cells.2.2.2.2; omega
                  go_wp2_with (at_builtin; refine wpList_append_lies _ rfl (.tmp 68) (.tmp 72) 30 rfl (w.heap.size + 2) 32 i0 _ 3 48 Tryz.underlying30' hi0 z0 z1 z2 rfl (by decide) (.slice ka4 x' c4) x' xs4 rfl ((HO.out.alloc _).alloc _) ⟨w4.heap.size + 1, 0, none⟩ 1 1 [.int .i64 5, .string ⟨#[]⟩, .slice (some ⟨w4.heap.size, 0, none⟩) 1 1] rfl rfl (news3 _ _ (by rw [World.size_alloc]) _ _ _ _) (by simp [Value.oneCell']) (by decide) (by unfold maxLen; omega) (by omega) (by rw [World.size_alloc, World.size_alloc]; omega) _ rfl ?_; intro g6 c6 w6 hown6 hg6 hat6 hlt6; have H6 := hide (⟨hown6, hg6⟩ : _ ∧ _); clear hown6 hg6 hat6 hlt6)
                  go_meet
                  case rel =>
                    obtain ⟨hown6, hg6⟩ := H6.out
                    obtain ⟨F4, x4, y4, E4⟩ := H5.out
                    have F6 := fr_grown2 F4 hg6 HO.out (by omega)
                    have hst : ∀ k, k < w.heap.size + 2 → w6.heap[k]? = w4.heap[k]? := fun k hk =>
                      (hg6.block k (by rw [World.size_alloc, World.size_alloc]; omega) (fun e => by have := (own_in HO.out e.symm).1; omega)).trans ((Below.heap_alloc _ _ _ (by rw [World.size_alloc]; omega)).trans (Below.heap_alloc _ _ _ (by omega)))
                    have X6 : XB w6 w.heap.size op st ka m c := (hst _ (by omega)).trans x4
                    have Y6 : XB w6 (w.heap.size + 1) 0 ⟨#[]⟩ none 0 0 := (hst _ (by omega)).trans y4
                    have E6 : EB w6 b s ((q + 1 : Nat) : Int) 0 at_ d := (hst _ (by omega)).trans E4
                    exact ⟨some ⟨g6, 0, none⟩, x' + 1, c6, _, rfl, by omega, hown6, F6, X6, Y6, E6⟩
                | false =>
                  go_wp2
                  go_meet
                  case rel =>
                    obtain ⟨F4, x4, y4, E4⟩ := H5.out
                    exact ⟨ka4, x', c4, xs4, rfl, by omega, HO.out, F4, x4, y4, E4⟩
              case rest =>
                obtain ⟨k5, n5, c5, xs5, rfl, hn5, own5, F5, x5, y5, E5⟩ := hcut
                clear H5 HO a0 a1 a2 af al
                obtain ⟨a0, a1, a2, af, al⟩ := x5.cells
                obtain ⟨dq, hdq⟩ := Int.eq_ofNat_of_zero_le (a := (y' : Int) - (x' : Int)) (by omega)
                have hdw : IntKind.i64.wrap (dq : Int) = (dq : Int) := by rw [IntKind.wrap_i64]; omega
                obtain ⟨W6, hW6⟩ : ∃ W6, wc.alloc (.cells #[.int .i64 1, .string ⟨#[]⟩, .slice none 0 0, .int .i64 op, .string st, .slice ka m c] 32) = W6 := ⟨_, rfl⟩
                have f6 : ∀ x, FrE x wc W6 := by intro x; rw [← hW6]; exact FrE.alloc _ _ _
                have hmn := many_any 4 ⟨#[]⟩ (some ⟨wc.heap.size, 0, none⟩) 2 2 dq (by omega) W6
                have own6 : W6.ownsRow (w.heap.size + 2) 32 3 (.slice k5 n5 c5) n5 xs5 := row_stay own5 (fun k hk => (f6 (k + 1)).block k (own_in own5 hk).2 (by omega))
                have H6 := hide (⟨F5.trans (f6 b), x5.all f6, y5.all f6, E5.all f6, own6⟩ : _ ∧ _ ∧ _ ∧ _ ∧ _)
                clear own5 F5 x5 y5 E5 f6 own6
                go_wp2_with fail
                refine hmn.mono ?_
                rintro e w7 ⟨⟨k7, c7, xs7, rfl, own7, one7⟩, f7⟩
                obtain ⟨F6, x6, y6, E6, own6⟩ := H6.out
                have F7 := F6.trans (f7 b)
                have y7 := y6.all f7
                have E7 := E6.all f7
                have own67 : w7.ownsRow (w.heap.size + 2) 32 3 (.slice k5 n5 c5) n5 xs5 := row_stay own6 (fun k hk => (f7 (k + 1)).block k (own_in own6 hk).2 (by omega))
                have hz7 : w.heap.size + 2 ≤ w7.heap.size := by have := y7.cells.2.2.2.2; omega
                clear hmn hW6 a0 a1 a2 af al H6 F6 x6 y6 E6 own6 f7
                have H7 := hide (⟨F7, y7, E7⟩ : _ ∧ _ ∧ _)
                have HO := hide own67
                clear F7 y7 E7 own67
                obtain ⟨i0, hi0, z0, z1, z2⟩ := info_parts Tryz.info32
                have hres : ∀ (k8 : Option Addr) (n8 c8 : Nat) (w8 : World) (act : Act), FrE b w w8 → XB w8 (w.heap.size + 1) 0 ⟨#[]⟩ none 0 0 → EB w8 b s ((q + 1 : Nat) : Int) 0 at_ d → act.tmps[6]? = some (.pointer (some ⟨w.heap.size + 1, 0, none⟩)) → act.tmps[7]? = some (.int .i64 pr) → act.defers = [] → bodyPost Tryz.prog Tryz.f42 (RTimP b s at_ d n (.ok ⟨(x' : Int), (y' : Int), z'⟩ (q + 1)) w) .ret act (Go.Proofs.YtdlljlmgoiobpaaGreatDoor.set3x w8 (w.heap.size + 1) 3 ⟨#[]⟩ k8 n8 c8) := by
                  intro k8 n8 c8 w8 act F8 y8 E8 h6 h7 hd
                  have fs := set3x_fr w8 (w.heap.size + 1) 3 ⟨#[]⟩ k8 n8 c8
                  have F9 := F8.own (by omega) fs
                  have E9 := E8.own fs (by omega)
                  obtain ⟨hcp, hpr0, hpr1, hmin, hcp0⟩ := H4.out
                  exact x_ret rfl h6 h7 hd (y8.set3x 3 ⟨#[]⟩ k8 n8 c8) ⟨F9, _, _, _, _, _, _, rfl, E9, hpr0, by omega, by rw [hmin]⟩
                have HRES := hide hres
                clear hres
                rcases own7.2 with ⟨e7, hd0⟩ | ⟨g7, c7', cur7, e7, hb7, hg7, hnc7, hcm7, hcs7, hct7⟩
                · injection e7 with e1 e2 e3
                  subst e1 e2 e3
                  obtain ⟨p0, p1, p2, pf, pl⟩ := H7.out.2.1.cells
                  go_wp2_with (at_builtin; refine wpList_append_own_none rfl (.tmp 82) (.tmp 83) 30 rfl (w.heap.size + 2) 32 i0 3 Tryz.underlying30' hi0 (.slice k5 n5 c5) n5 xs5 rfl HO.out rfl ?_)
                  exact HRES.out k5 n5 c5 w7 _ H7.out.1 H7.out.2.1 H7.out.2.2 rfl rfl rfl
                · injection e7 with e1 e2 e3
                  subst e1 e3
                  have hl7 := own7.1
                  have HC7 := hide (fun (j : Nat) (u : Value) (hu : xs7[j]? = some u) => (add_zero_at g7 j) ▸ own3_cell own7 hu)
                  go_wp2_with (at_builtin; refine wpList_append_own _ rfl (.tmp 82) (.tmp 83) 30 rfl (w.heap.size + 2) 32 i0 _ 3 48 Tryz.underlying30' hi0 z0 z1 z2 rfl (by decide) (.slice k5 n5 c5) n5 xs5 rfl HO.out ⟨g7, 0, none⟩ dq c7 xs7 rfl hl7 HC7.out one7 (by unfold maxLen; omega) (by omega) hz7 ?_; intro v8 w8 own8 hg8 hiff8; obtain ⟨k8, n8, c8, rfl⟩ : ∃ (k8 : Option Addr) (n8 c8 : Nat), v8 = .slice k8 n8 c8 := (by rcases own8.2 with ⟨e, _⟩ | ⟨g', c', cur, e, _⟩; exact ⟨_, _, _, e⟩; exact ⟨_, _, _, e⟩); have y8 : XB w8 (w.heap.size + 1) 0 ⟨#[]⟩ none 0 0 := (hg8.block _ H7.out.2.1.cells.2.2.2.2 (fun e => by have := (own_in HO.out e.symm).1; omega)).trans H7.out.2.1; obtain ⟨p0, p1, p2, pf, pl⟩ := y8.cells; have H8 := hide (⟨hg8, y8⟩ : _ ∧ _); clear own8 hg8 hiff8 y8)
                  obtain ⟨hg8, y8⟩ := H8.out
                  have F8 := fr_grown H7.out.1 hg8 HO.out (by omega)
                  have E8 : EB w8 b s ((q + 1 : Nat) : Int) 0 at_ d := (hg8.block _ H7.out.2.2.cells.2.2.2.2.2.2 (fun e => by have := (own_in HO.out e.symm).1; omega)).trans H7.out.2.2
                  exact HRES.out k8 n8 c8 w8 _ F8 y8 E8 rfl rfl rfl
        · rw [if_neg c125] at hcd
          rw [hcd] at hO
          subst hO
          have hB : isB s.data.toList q 125 = false := by unfold isB; rw [beq_eq_false_iff_ne]; exact c125
          rw [hB] at hi2
          have hf2 := fail_ok b s q at_ d 2 q wc.drew hE.drew
          obtain ⟨e0, e1, e2, e3, e4, ef, el⟩ := hE.cells
          have H2 := hide (⟨hf, hy⟩ : _ ∧ _)
          clear hf hx hy hE hcd c125 hB e2 e3 e4
          go_wp2_with fail
          refine hi2.mono ?_
          rintro e w2 ⟨rfl, hw⟩
          rw [hw]
          clear hw
          go_wp2_with fail
          refine hf2.mono ?_
          rintro e w5 ⟨rfl, r5, f5⟩
          obtain ⟨hf, hy⟩ := H2.out
          have y5 := (XB.drew hy).keep f5 hg1
          have F5 := hf.drew.trans f5
          clear e0 e1 ef el
          obtain ⟨e0, e1, e2, e3, e4, ef, el⟩ := r5.cells
          obtain ⟨z0, z1, z2, zf, zl⟩ := y5.cells
          have H5 := hide (⟨y5, F5, r5⟩ : _ ∧ _ ∧ _)
          clear y5 F5 r5 f5 hf hy
          go_wp2
          obtain ⟨y5, F5, r5⟩ := H5.out
          have fs := set3x_fr w5 (w.heap.size + 1) 0 ⟨#[]⟩ none 0 0
          have F2 := F5.own (by omega) fs
          have r2 := r5.own fs (by omega)
          exact x_ret rfl rfl rfl rfl (y5.set3x 0 ⟨#[]⟩ none 0 0) ⟨F2, _, _, _, _, _, _, rfl, rfl, by decide, _, _, r2⟩
end Go.Proofs.YtdlljlmgoiobpaaGreatDoor
