/- The document's reader: a piece. -/
import Derived.Test.YtdlljlmgoiobpaaGreatDoorDaF
import Derived.Test.YtdlljlmgoiobpaaGreatDoorEU
namespace Go.Proofs.YtdlljlmgoiobpaaGreatDoor
open Go.RowKit Go.Maps
theorem XB.alloc {W : World} {g : Nat} {op : Int} {st : ByteArray} {ka : Option Addr} {m c : Nat} (h : XB W g op st ka m c) (o : Obj) : XB (W.alloc o) g op st ka m c := (Below.heap_alloc _ _ _ (Array.getElem?_eq_some_iff.1 h).1).trans h
/-- How many atoms there are, as far as it matters. -/
def SameN (n a : Int) : Prop := 0 ≤ n ∧ n ≤ 1000000 ∧ min n 1001 = min a 1001
/-- Where the signs behind a piece are read: what is still to come. -/
def PcI (l : List UInt8) (R : Res PtD) (k : Nat) (b : Nat) (s : ByteArray) (at_ d : Int) (n : Int) (W : World) : Prop :=
  (∃ (r : Nat) (i' at' d' : Int), r ≠ 0 ∧ R = .bad r ∧ 0 ≤ n ∧ n ≤ 1000000 ∧ EB W b s i' (r : Int) at' d') ∨
  (∃ (q : PtD) (j : Nat), R = repsD l k q j ∧ l.length ≤ j + k ∧ j ≤ l.length ∧ 0 ≤ q.atoms ∧ q.atoms ≤ 1000000 ∧ SameN n q.atoms ∧ EB W b s (j : Int) 0 at_ d)
def repsR (l : List UInt8) : Res PtD → Res PtD
  | .bad e => .bad e
  | .ok p j => repsD l l.length p j
theorem epiece_eq (f : Nat) (ex : Nat → Res PtD) (l : List UInt8) (i : Nat) : epieceD f ex l i = fewD (repsR l (atomD f ex l i)) := by
  unfold epieceD
  cases atomD f ex l i <;> rfl
theorem repeatD_at (p : PtD) (t : TimesD) : (repeatD p t).atoms = min (p.atoms * copiesD t) 1001 := by
  unfold repeatD
  split
  · rename_i h; rw [h]
  · rfl
theorem same_mul {n a n' c : Int} (h : SameN n a) (ha : 0 ≤ a) (hc : 0 ≤ c) (h0 : 0 ≤ n') (h1 : n' ≤ 1001) (hm : min n' 1001 = min (n * c) 1001) : SameN n' (min (a * c) 1001) := by
  obtain ⟨g0, g1, g2⟩ := h
  refine ⟨h0, by omega, ?_⟩
  rw [hm]
  by_cases hn : n ≤ 1000
  · have : n = a := by omega
    rw [this]
    omega
  · have hna : 1001 ≤ n ∧ 1001 ≤ a := by omega
    by_cases hc0 : c = 0
    · rw [hc0, Int.mul_zero, Int.mul_zero]; decide
    · have h2 : n * 1 ≤ n * c := Int.mul_le_mul_of_nonneg_left (by omega) (by omega)
      have h3 : a * 1 ≤ a * c := Int.mul_le_mul_of_nonneg_left (by omega) (by omega)
      rw [Int.mul_one] at h2 h3
      omega
/-- A sign has been read. -/
theorem pc_next {l : List UInt8} {R : Res PtD} {k j j' : Nat} {q : PtD} {t : TimesD} {b : Nat} {s : ByteArray} {at_ d n n' : Int} {W : World} (hR : R = repsD l k q j) (hk : l.length ≤ j + k) (ha : 0 ≤ q.atoms ∧ q.atoms ≤ 1000000) (h : repD l j = some (.ok t j')) (hn : SameN n q.atoms) (h0 : 0 ≤ n') (h1 : n' ≤ 1000000) (hm : min n' 1001 = min (n * copiesD t) 1001) (hE : EB W b s (j' : Int) 0 at_ d) : 1 ≤ k ∧ PcI l R (k - 1) b s at_ d n' W := by
  obtain ⟨g1, g2, g3⟩ := ready_ok hR hk ha h
  obtain ⟨r1, r2, r3, r4, r5, r6⟩ := g3
  have hcp := copiesD_bound r5
  have hra := repeatD_atoms r5 ha.1
  refine ⟨g1, .inr ⟨repeatD q t, j', r6, r1, r2, hra.1, by omega, ?_, hE⟩⟩
  have := same_mul (n' := min n' 1001) hn ha.1 hcp.1 (by omega) (by omega) (by rw [← hm]; omega)
  rw [repeatD_at]
  refine ⟨h0, h1, ?_⟩
  have h3 := this.2.2
  omega
theorem pc_times {l : List UInt8} {R : Res PtD} {k j r : Nat} {q : PtD} (hR : R = repsD l k q j) (hk : l.length ≤ j + k) (h : repD l j = some (.bad r)) : 1 ≤ k ∧ R = .bad r := by
  have := repD_lt h
  exact ⟨by omega, ready_bad hR hk h⟩
/-- The place has gone on, and the Expr is another one. -/
theorem pc_put {b g5 : Nat} {s : ByteArray} {w W4 : World} {at_ d : Int} {j : Nat} {op0 : Int} {st0 : ByteArray} {ka0 : Option Addr} {m0 c0 : Nat} (F4 : FrE b w W4) (x4 : XB W4 g5 op0 st0 ka0 m0 c0) (y4 : XB W4 w.heap.size 0 ⟨#[]⟩ none 0 0) (E4 : EB W4 b s (j : Int) 0 at_ d) (hg : w.heap.size < g5) (hgb : g5 ≠ b) (hb : w.heap.size ≠ b) (op : Int) (st : ByteArray) (ka : Option Addr) (m c : Nat) :
    FrE b w (set3x (W4.setCell ⟨b, 1, none⟩ (.int .i64 ((j : Int) + 1))) g5 op st ka m c) ∧ XB (set3x (W4.setCell ⟨b, 1, none⟩ (.int .i64 ((j : Int) + 1))) g5 op st ka m c) g5 op st ka m c ∧ XB (set3x (W4.setCell ⟨b, 1, none⟩ (.int .i64 ((j : Int) + 1))) g5 op st ka m c) w.heap.size 0 ⟨#[]⟩ none 0 0 ∧ EB (set3x (W4.setCell ⟨b, 1, none⟩ (.int .i64 ((j : Int) + 1))) g5 op st ka m c) b s ((j + 1 : Nat) : Int) 0 at_ d := by
  have f1 := FrE.set b W4 1 (.int .i64 ((j : Int) + 1))
  have x5 := x4.keep f1 hgb
  have y5 := y4.keep f1 hb
  have E5 : EB (W4.setCell ⟨b, 1, none⟩ (.int .i64 ((j : Int) + 1))) b s ((j + 1 : Nat) : Int) 0 at_ d := E4.set1 ((j : Int) + 1)
  have f2 := set3x_fr (W4.setCell ⟨b, 1, none⟩ (.int .i64 ((j : Int) + 1))) g5 op st ka m c
  exact ⟨(F4.trans f1).own (by omega) f2, x5.set3x op st ka m c, y5.keep f2 (by omega), E5.own f2 hgb⟩
set_option maxRecDepth 100000 in
set_option maxHeartbeats 8000000 in
theorem rpiece_any (b : Nat) (s : ByteArray) (d : Int) (f : Nat) (ex : Nat → Res PtD) (hs : s.size ≤ 200) (hat : DOK 41 b s d 600000 (atomD f ex s.data.toList)) (hgo : GoesE s.data.toList (atomD f ex s.data.toList)) :
    DOK 32 b s d 0 (epieceD f ex s.data.toList) := by
  intro w i at_ h hi
  have hsl : s.data.toList.length = s.size := by simp
  have hb : b < w.heap.size := (Array.getElem?_eq_some_iff.1 h).1
  have hgb : w.heap.size ≠ b := by omega
  obtain ⟨W0, hW0⟩ : ∃ W0, w.alloc (.cells #[.int .i64 0, .string ⟨#[]⟩, .slice none 0 0] 32) = W0 := ⟨_, rfl⟩
  have h0 : EB W0 b s (i : Int) 0 at_ d := by rw [← hW0]; exact h.alloc _
  have y0 : XB W0 w.heap.size 0 ⟨#[]⟩ none 0 0 := by rw [← hW0]; exact XB.new w 0 ⟨#[]⟩ none 0 0
  have f0 : FrE b w W0 := by rw [← hW0]; exact FrE.alloc _ _ _
  obtain ⟨e0, e1, e2, e3, e4, ef, el⟩ := h0.cells
  obtain ⟨o, ho⟩ : ∃ o, epieceD f ex s.data.toList i = o := ⟨_, rfl⟩
  rw [ho]
  have hca := hat W0 i at_ h0 hi
  obtain ⟨r, hr⟩ : ∃ r, atomD f ex s.data.toList i = r := ⟨_, rfl⟩
  have hgi := hgo i
  rw [hr] at hca hgi
  rw [epiece_eq, hr] at ho
  obtain ⟨R, hR⟩ : ∃ R, repsR s.data.toList r = R := ⟨_, rfl⟩
  rw [hR] at ho
  have hoR : o = fewD R := ho.symm
  have H0 := hide (⟨y0, f0, hsl, hoR, hR⟩ : _ ∧ _ ∧ _ ∧ _ ∧ _)
  clear h hat hgo hr ho h0 y0 f0 hoR hR
  go_enter Tryz.func32, Tryz.ntmps32
  go_wp2_with fail
  refine hca.mono ?_
  rintro e w1 ⟨f1, op, st, ka, m, c, n, rfl, hp⟩
  obtain ⟨y0, f0, hsl, hoR, hR⟩ := H0.out
  have y1 := y0.keep f1 hgb
  have F1 := f0.trans f1
  have hg1 : w.heap.size < w1.heap.size := y1.cells.2.2.2.2
  obtain ⟨g5, hg5⟩ : ∃ g5, w1.heap.size = g5 := ⟨_, rfl⟩
  obtain ⟨W2, hW2⟩ : ∃ W2, w1.alloc (.cells #[.int .i64 op, .string st, .slice ka m c] 32) = W2 := ⟨_, rfl⟩
  have f12 : ∀ x, FrE x w1 W2 := by intro x; rw [← hW2]; exact FrE.alloc _ _ _
  have x2 : XB W2 g5 op st ka m c := by rw [← hW2, ← hg5]; exact XB.new w1 op st ka m c
  have y2 := y1.all f12
  have F2 := F1.trans (f12 b)
  have hI : PcI s.data.toList R s.data.toList.length b s at_ d n W2 := by
    cases r with
    | bad r =>
      obtain ⟨hr0, hn0, hnM, i', at', d', E1⟩ := hp
      exact .inl ⟨r, i', at', d', hr0, hR.symm, hn0, by omega, E1.all f12⟩
    | ok p j =>
      obtain ⟨rfl, E1⟩ := hp
      obtain ⟨hij, hj, hp0, hp1⟩ := hgi p j (by rw [hsl]; exact hi) rfl
      refine .inr ⟨p, j, hR.symm, by omega, hj, hp0, by omega, ⟨hp0, by omega, rfl⟩, E1.all f12⟩
  have hg05 : w.heap.size ≠ g5 := by omega
  have hg5b : g5 ≠ b := by omega
  have hwg5 : w.heap.size < g5 := by omega
  have H2 := hide (⟨F2, x2, y2, hI⟩ : _ ∧ _ ∧ _ ∧ _)
  have HO := hide hoR
  have HSL := hide hsl
  clear y0 f0 hsl hoR hR y1 F1 f12 x2 y2 F2 hI hp f1 hgi hca H0 e0 e1 e2 e3 e4 ef el hg1
  unfold xV
  go_wp2
  clear hW2 hg5
  go_loopg [6] s.data.toList.length (fun k v6 wr => ∃ (n : Int) (op : Int) (st : ByteArray) (ka : Option Addr) (m c : Nat), v6 = .int .i64 n ∧ FrE b w wr ∧ XB wr g5 op st ka m c ∧ XB wr w.heap.size 0 ⟨#[]⟩ none 0 0 ∧ PcI s.data.toList R k b s at_ d n wr)
  case atStart => exact ⟨n, op, st, ka, m, c, rfl, H2.out⟩
  case round =>
    clear H2
    obtain ⟨n, op, st, ka, m, c, rfl, hf, hx, hy, hI⟩ := hrel
    rcases hI with ⟨r, i', at', d', hr0, hRb, hn0, hnM, hE⟩ | ⟨q, j, hRq, hlk, hjl, hq0, hq1, hsn, hE⟩
    · have hrI : (r : Int) ≠ 0 := by omega
      have hrb : ((r : Int) != 0) = true := by rw [bne_iff_ne]; exact hrI
      have his := fun c W hW => is_no b s i' r at' d' c W hW hrI
      have HE := hide hE
      have hoe : o = .bad r := by rw [HO.out, hRb]; rfl
      obtain ⟨e0, e1, e2, e3, e4, ef, el⟩ := hE.cells
      obtain ⟨z0, z1, z2, zf, zl⟩ := hy.cells
      have H3 := hide (⟨hf, hy, hoe⟩ : _ ∧ _ ∧ _)
      clear hf hx hy hE hRb hoe hrI
      go_wp2_with fail
      refine (his 42 _ HE.out).mono ?_
      rintro e w3 ⟨rfl, hw⟩
      rw [hw]
      clear hw
      go_wp2_with fail
      refine (his 43 _ HE.out.drew).mono ?_
      rintro e w3 ⟨rfl, hw⟩
      rw [hw]
      clear hw
      go_wp2_with fail
      refine (his 63 _ HE.out.drew.drew).mono ?_
      rintro e w3 ⟨rfl, hw⟩
      rw [hw]
      clear hw
      go_wp2_with fail
      refine (his 123 _ HE.out.drew.drew.drew).mono ?_
      rintro e w3 ⟨rfl, hw⟩
      rw [hw]
      clear hw
      obtain ⟨hf, hy, hoe⟩ := H3.out
      have F4 := hf.drew.drew.drew.drew
      have y4 := XB.drew (XB.drew (XB.drew (XB.drew hy)))
      have E4 := HE.out.drew.drew.drew.drew
      obtain ⟨W4, hW4⟩ : ∃ W4, wr.drew.drew.drew.drew = W4 := ⟨_, rfl⟩
      rw [hW4] at F4 y4 E4 ⊢
      clear hf hy e0 e1 e2 e3 e4 ef el z0 z1 z2 zf zl H3 HE his hW4
      obtain ⟨e0, e1, e2, e3, e4, ef, el⟩ := E4.cells
      obtain ⟨z0, z1, z2, zf, zl⟩ := y4.cells
      have hf4 := fail_no b s i' r at' d' 4 (i : Int) W4 E4 (by omega)
      have H4 := hide (⟨F4, y4, E4, hoe⟩ : _ ∧ _ ∧ _ ∧ _)
      clear F4 y4 E4 hoe
      by_cases hbig : 1000 < n
      · go_wp2_with fail
        refine hf4.mono ?_
        rintro e w3 ⟨rfl, hw⟩
        rw [hw]
        clear hw
        go_wp2
        obtain ⟨F4, y4, E4, hoe⟩ := H4.out
        exact dp_bad rfl rfl rfl rfl y4 E4 F4 hgb (Nat.le_refl _) hoe hr0 (by decide) (by decide)
      · go_wp2
        obtain ⟨F4, y4, E4, hoe⟩ := H4.out
        exact dp_bad rfl rfl rfl rfl y4 E4 F4 hgb (Nat.le_refl _) hoe hr0 (by decide) (by decide)
    · have his := fun c W hW => is_ok b s j at_ d c W hW
      have HE := hide hE
      have hjs : j ≤ s.size := by rw [← HSL.out]; exact hjl
      by_cases c42 : s.data.toList[j]? = some 42
      · have hB : isB s.data.toList j 42 = true := by unfold isB; rw [c42]; rfl
        have hlt : j < s.size := by rw [← HSL.out]; exact (List.getElem?_eq_some_iff.1 c42).1
        have hsj : s[j] = 42 := by
          have : s.data.toList[j]? = some s[j] := by rw [List.getElem?_eq_getElem (by simpa using hlt)]; rfl
          rw [this] at c42; exact Option.some.inj c42
        have hrp : repD s.data.toList j = some (.ok ⟨0, 0, true⟩ (j + 1)) := by unfold repD; rw [if_pos c42]
        have hb42 : ((s[j].toNat : Int) == 42) = true := by rw [hsj]; rfl
        have hjI : (j : Int) < (s.size : Int) := by omega
        have H3 := hide (⟨hf, hx, hy, hRq, hlk, hq0, hq1, hsn, hrp⟩ : _ ∧ _ ∧ _ ∧ _ ∧ _ ∧ _ ∧ _ ∧ _ ∧ _)
        have h42 := his 42 _ HE.out
        rw [hB] at h42
        clear hf hx hy hE hRq hlk hjl hq0 hq1 hsn hrp hB hsj his c42 
        go_wp2_with fail
        refine h42.mono ?_
        rintro e w3 ⟨rfl, hw⟩
        rw [hw]
        clear hw h42
        obtain ⟨hf, hx, hy, hRq, hlk, hq0, hq1, hsn, hrp⟩ := H3.out
        have F4 := hf.drew
        have x4 := XB.drew (hx)
        have y4 := XB.drew (hy)
        have E4 := HE.out.drew
        obtain ⟨W4, hW4⟩ : ∃ W4, wr.drew = W4 := ⟨_, rfl⟩
        rw [hW4] at F4 x4 y4 E4 ⊢
        clear hf hx hy H3 HE hW4
        obtain ⟨e0, e1, e2, e3, e4, ef, el⟩ := E4.cells
        obtain ⟨a0, a1, a2, af, al⟩ := x4.cells
        have H4 := hide (⟨F4, x4, y4, E4, hRq, hlk, hq0, hq1, hsn, hrp⟩ : _ ∧ _ ∧ _ ∧ _ ∧ _ ∧ _ ∧ _ ∧ _ ∧ _ ∧ _)
        clear F4 x4 y4 E4 hRq hlk hq0 hq1 hsn hrp
        go_wp2
        go_region
        go_wp2
        go_roundg (gk - 1)
        case measure => have h1 := repD_lt H4.out.2.2.2.2.2.2.2.2.2; have h2 := H4.out.2.2.2.2.2.1; omega
        case rel =>
          obtain ⟨F4, x4, y4, E4, hRq, hlk, hq0, hq1, hsn, hrp⟩ := H4.out
          obtain ⟨F6, x6, y6, E6⟩ := pc_put F4 x4 y4 E4 hwg5 hg5b hgb 5 ⟨#[]⟩ (some ⟨W4.heap.size, 0, none⟩) 1 1
          have F7 := F6.trans (FrE.alloc b _ (.cells #[.int .i64 op, .string st, .slice ka m c] 32))
          have x7 := x6.alloc (.cells #[.int .i64 op, .string st, .slice ka m c] 32)
          have y7 := y6.alloc (.cells #[.int .i64 op, .string st, .slice ka m c] 32)
          have E7 := E6.alloc (.cells #[.int .i64 op, .string st, .slice ka m c] 32)
          have hn0 := hsn.1
          have hn1 := hsn.2.1
          have hN := (pc_next (n' := n) hRq hlk ⟨hq0, hq1⟩ hrp hsn (by omega) (by omega) (by simp only [copiesD]; simp; try omega) E7.drew).2
          exact ⟨n, _, _, _, _, _, rfl, F7.drew, XB.drew x7, XB.drew y7, hN⟩
      · by_cases c43 : s.data.toList[j]? = some 43
        · have hB : isB s.data.toList j 43 = true := by unfold isB; rw [c43]; rfl
          have hB42 : isB s.data.toList j 42 = false := by unfold isB; rw [beq_eq_false_iff_ne]; exact c42
          have hlt : j < s.size := by rw [← HSL.out]; exact (List.getElem?_eq_some_iff.1 c43).1
          have hsj : s[j] = 43 := by
            have : s.data.toList[j]? = some s[j] := by rw [List.getElem?_eq_getElem (by simpa using hlt)]; rfl
            rw [this] at c43; exact Option.some.inj c43
          have hrp : repD s.data.toList j = some (.ok ⟨1, 0, true⟩ (j + 1)) := by unfold repD; rw [if_neg c42, if_pos c43]
          have hb42 : ((s[j].toNat : Int) == 42) = false := by rw [hsj]; rfl
          have hb43 : ((s[j].toNat : Int) == 43) = true := by rw [hsj]; rfl
          have hjI : (j : Int) < (s.size : Int) := by omega
          have H3 := hide (⟨hf, hx, hy, hRq, hlk, hq0, hq1, hsn, hrp⟩ : _ ∧ _ ∧ _ ∧ _ ∧ _ ∧ _ ∧ _ ∧ _ ∧ _)
          have h42 := his 42 _ HE.out
          rw [hB42] at h42
          have h43 := his 43 _ HE.out.drew
          rw [hB] at h43
          clear hf hx hy hE hRq hlk hjl hq0 hq1 hsn hrp hB hsj his c42 c43 hB42
          go_wp2_with fail
          refine h42.mono ?_
          rintro e w3 ⟨rfl, hw⟩
          rw [hw]
          clear hw h42
          go_wp2_with fail
          refine h43.mono ?_
          rintro e w3 ⟨rfl, hw⟩
          rw [hw]
          clear hw h43
          obtain ⟨hf, hx, hy, hRq, hlk, hq0, hq1, hsn, hrp⟩ := H3.out
          have F4 := hf.drew.drew
          have x4 := XB.drew (XB.drew (hx))
          have y4 := XB.drew (XB.drew (hy))
          have E4 := HE.out.drew.drew
          obtain ⟨W4, hW4⟩ : ∃ W4, wr.drew.drew = W4 := ⟨_, rfl⟩
          rw [hW4] at F4 x4 y4 E4 ⊢
          clear hf hx hy H3 HE hW4
          obtain ⟨e0, e1, e2, e3, e4, ef, el⟩ := E4.cells
          obtain ⟨a0, a1, a2, af, al⟩ := x4.cells
          have hn2 : IntKind.i64.wrap (2 * n) = 2 * n := by rw [IntKind.wrap_i64]; have := hsn.1; have := hsn.2.1; omega
          have H4 := hide (⟨F4, x4, y4, E4, hRq, hlk, hq0, hq1, hsn, hrp⟩ : _ ∧ _ ∧ _ ∧ _ ∧ _ ∧ _ ∧ _ ∧ _ ∧ _ ∧ _)
          clear F4 x4 y4 E4 hRq hlk hq0 hq1 hsn hrp
          go_wp2
          go_region
          go_wp2
          go_roundg (gk - 1)
          case measure => have h1 := repD_lt H4.out.2.2.2.2.2.2.2.2.2; have h2 := H4.out.2.2.2.2.2.1; omega
          case rel =>
            obtain ⟨F4, x4, y4, E4, hRq, hlk, hq0, hq1, hsn, hrp⟩ := H4.out
            obtain ⟨F6, x6, y6, E6⟩ := pc_put F4 x4 y4 E4 hwg5 hg5b hgb 3 ⟨#[]⟩ (some ⟨W4.heap.size + 1, 0, none⟩) 2 2
            have F7 := F6.trans (FrE.alloc b _ (.cells #[.int .i64 op, .string st, .slice ka m c] 32))
            have x7 := x6.alloc (.cells #[.int .i64 op, .string st, .slice ka m c] 32)
            have y7 := y6.alloc (.cells #[.int .i64 op, .string st, .slice ka m c] 32)
            have E7 := E6.alloc (.cells #[.int .i64 op, .string st, .slice ka m c] 32)
            have F8 := F7.trans (FrE.alloc b _ (.cells #[.int .i64 op, .string st, .slice ka m c, .int .i64 5, .string ⟨#[]⟩, .slice (some ⟨W4.heap.size, 0, none⟩) 1 1] 32))
            have x8 := x7.alloc (.cells #[.int .i64 op, .string st, .slice ka m c, .int .i64 5, .string ⟨#[]⟩, .slice (some ⟨W4.heap.size, 0, none⟩) 1 1] 32)
            have y8 := y7.alloc (.cells #[.int .i64 op, .string st, .slice ka m c, .int .i64 5, .string ⟨#[]⟩, .slice (some ⟨W4.heap.size, 0, none⟩) 1 1] 32)
            have E8 := E7.alloc (.cells #[.int .i64 op, .string st, .slice ka m c, .int .i64 5, .string ⟨#[]⟩, .slice (some ⟨W4.heap.size, 0, none⟩) 1 1] 32)
            have hn0 := hsn.1
            have hn1 := hsn.2.1
            have hN := (pc_next (n' := (min (2 * n) 1001)) hRq hlk ⟨hq0, hq1⟩ hrp hsn (by omega) (by omega) (by simp only [copiesD]; simp; try omega) E8.drew).2
            exact ⟨(min (2 * n) 1001), _, _, _, _, _, rfl, F8.drew, XB.drew x8, XB.drew y8, hN⟩
        · by_cases c63 : s.data.toList[j]? = some 63
          · have hB : isB s.data.toList j 63 = true := by unfold isB; rw [c63]; rfl
            have hB42 : isB s.data.toList j 42 = false := by unfold isB; rw [beq_eq_false_iff_ne]; exact c42
            have hB43 : isB s.data.toList j 43 = false := by unfold isB; rw [beq_eq_false_iff_ne]; exact c43
            have hlt : j < s.size := by rw [← HSL.out]; exact (List.getElem?_eq_some_iff.1 c63).1
            have hsj : s[j] = 63 := by
              have : s.data.toList[j]? = some s[j] := by rw [List.getElem?_eq_getElem (by simpa using hlt)]; rfl
              rw [this] at c63; exact Option.some.inj c63
            have hrp : repD s.data.toList j = some (.ok ⟨0, 1, false⟩ (j + 1)) := by unfold repD; rw [if_neg c42, if_neg c43, if_pos c63]
            have hb42 : ((s[j].toNat : Int) == 42) = false := by rw [hsj]; rfl
            have hb43 : ((s[j].toNat : Int) == 43) = false := by rw [hsj]; rfl
            have hb63 : ((s[j].toNat : Int) == 63) = true := by rw [hsj]; rfl
            have hjI : (j : Int) < (s.size : Int) := by omega
            have H3 := hide (⟨hf, hx, hy, hRq, hlk, hq0, hq1, hsn, hrp⟩ : _ ∧ _ ∧ _ ∧ _ ∧ _ ∧ _ ∧ _ ∧ _ ∧ _)
            have h42 := his 42 _ HE.out
            rw [hB42] at h42
            have h43 := his 43 _ HE.out.drew
            rw [hB43] at h43
            have h63 := his 63 _ HE.out.drew.drew
            rw [hB] at h63
            clear hf hx hy hE hRq hlk hjl hq0 hq1 hsn hrp hB hsj his c42 c43 c63 hB42 hB43
            go_wp2_with fail
            refine h42.mono ?_
            rintro e w3 ⟨rfl, hw⟩
            rw [hw]
            clear hw h42
            go_wp2_with fail
            refine h43.mono ?_
            rintro e w3 ⟨rfl, hw⟩
            rw [hw]
            clear hw h43
            go_wp2_with fail
            refine h63.mono ?_
            rintro e w3 ⟨rfl, hw⟩
            rw [hw]
            clear hw h63
            obtain ⟨hf, hx, hy, hRq, hlk, hq0, hq1, hsn, hrp⟩ := H3.out
            have F4 := hf.drew.drew.drew
            have x4 := XB.drew (XB.drew (XB.drew (hx)))
            have y4 := XB.drew (XB.drew (XB.drew (hy)))
            have E4 := HE.out.drew.drew.drew
            obtain ⟨W4, hW4⟩ : ∃ W4, wr.drew.drew.drew = W4 := ⟨_, rfl⟩
            rw [hW4] at F4 x4 y4 E4 ⊢
            clear hf hx hy H3 HE hW4
            obtain ⟨e0, e1, e2, e3, e4, ef, el⟩ := E4.cells
            obtain ⟨a0, a1, a2, af, al⟩ := x4.cells
            have H4 := hide (⟨F4, x4, y4, E4, hRq, hlk, hq0, hq1, hsn, hrp⟩ : _ ∧ _ ∧ _ ∧ _ ∧ _ ∧ _ ∧ _ ∧ _ ∧ _ ∧ _)
            clear F4 x4 y4 E4 hRq hlk hq0 hq1 hsn hrp
            go_wp2
            go_region
            go_wp2
            go_roundg (gk - 1)
            case measure => have h1 := repD_lt H4.out.2.2.2.2.2.2.2.2.2; have h2 := H4.out.2.2.2.2.2.1; omega
            case rel =>
              obtain ⟨F4, x4, y4, E4, hRq, hlk, hq0, hq1, hsn, hrp⟩ := H4.out
              obtain ⟨F6, x6, y6, E6⟩ := pc_put F4 x4 y4 E4 hwg5 hg5b hgb 4 ⟨#[]⟩ (some ⟨W4.heap.size, 0, none⟩) 2 2
              have F7 := F6.trans (FrE.alloc b _ (.cells #[.int .i64 1, .string ⟨#[]⟩, .slice none 0 0, .int .i64 op, .string st, .slice ka m c] 32))
              have x7 := x6.alloc (.cells #[.int .i64 1, .string ⟨#[]⟩, .slice none 0 0, .int .i64 op, .string st, .slice ka m c] 32)
              have y7 := y6.alloc (.cells #[.int .i64 1, .string ⟨#[]⟩, .slice none 0 0, .int .i64 op, .string st, .slice ka m c] 32)
              have E7 := E6.alloc (.cells #[.int .i64 1, .string ⟨#[]⟩, .slice none 0 0, .int .i64 op, .string st, .slice ka m c] 32)
              have hn0 := hsn.1
              have hn1 := hsn.2.1
              have hN := (pc_next (n' := n) hRq hlk ⟨hq0, hq1⟩ hrp hsn (by omega) (by omega) (by simp only [copiesD]; simp; try omega) E7.drew).2
              exact ⟨n, _, _, _, _, _, rfl, F7.drew, XB.drew x7, XB.drew y7, hN⟩
          · by_cases c123 : s.data.toList[j]? = some 123
            · have hB : isB s.data.toList j 123 = true := by unfold isB; rw [c123]; rfl
              have hB42 : isB s.data.toList j 42 = false := by unfold isB; rw [beq_eq_false_iff_ne]; exact c42
              have hB43 : isB s.data.toList j 43 = false := by unfold isB; rw [beq_eq_false_iff_ne]; exact c43
              have hB63 : isB s.data.toList j 63 = false := by unfold isB; rw [beq_eq_false_iff_ne]; exact c63
              have hlt : j < s.size := by rw [← HSL.out]; exact (List.getElem?_eq_some_iff.1 c123).1
              have hsj : s[j] = 123 := by
                have : s.data.toList[j]? = some s[j] := by rw [List.getElem?_eq_getElem (by simpa using hlt)]; rfl
                rw [this] at c123; exact Option.some.inj c123
              have hrp : repD s.data.toList j = some (countD s.data.toList (j + 1)) := by unfold repD; rw [if_neg c42, if_neg c43, if_neg c63, if_pos c123]
              have hb42 : ((s[j].toNat : Int) == 42) = false := by rw [hsj]; rfl
              have hb43 : ((s[j].toNat : Int) == 43) = false := by rw [hsj]; rfl
              have hb63 : ((s[j].toNat : Int) == 63) = false := by rw [hsj]; rfl
              have hjI : (j : Int) < (s.size : Int) := by omega
              have H3 := hide (⟨hf, hx, hy, hRq, hlk, hq0, hq1, hsn, hrp⟩ : _ ∧ _ ∧ _ ∧ _ ∧ _ ∧ _ ∧ _ ∧ _ ∧ _)
              have h42 := his 42 _ HE.out
              rw [hB42] at h42
              have h43 := his 43 _ HE.out.drew
              rw [hB43] at h43
              have h63 := his 63 _ HE.out.drew.drew
              rw [hB63] at h63
              have h123 := his 123 _ HE.out.drew.drew.drew
              rw [hB] at h123
              clear hf hx hy hE hRq hlk hjl hq0 hq1 hsn hrp hB hsj his c42 c43 c63 c123 hB42 hB43 hB63
              go_wp2_with fail
              refine h42.mono ?_
              rintro e w3 ⟨rfl, hw⟩
              rw [hw]
              clear hw h42
              go_wp2_with fail
              refine h43.mono ?_
              rintro e w3 ⟨rfl, hw⟩
              rw [hw]
              clear hw h43
              go_wp2_with fail
              refine h63.mono ?_
              rintro e w3 ⟨rfl, hw⟩
              rw [hw]
              clear hw h63
              go_wp2_with fail
              refine h123.mono ?_
              rintro e w3 ⟨rfl, hw⟩
              rw [hw]
              clear hw h123
              obtain ⟨hf, hx, hy, hRq, hlk, hq0, hq1, hsn, hrp⟩ := H3.out
              have F4 := hf.drew.drew.drew.drew
              have x4 := XB.drew (XB.drew (XB.drew (XB.drew (hx))))
              have y4 := XB.drew (XB.drew (XB.drew (XB.drew (hy))))
              have E4 := HE.out.drew.drew.drew.drew
              obtain ⟨W4, hW4⟩ : ∃ W4, wr.drew.drew.drew.drew = W4 := ⟨_, rfl⟩
              rw [hW4] at F4 x4 y4 E4 ⊢
              clear hf hx hy H3 HE hW4
              obtain ⟨e0, e1, e2, e3, e4, ef, el⟩ := E4.cells
              obtain ⟨a0, a1, a2, af, al⟩ := x4.cells
              have f5 := FrE.set b W4 1 (.int .i64 ((j : Int) + 1))
              have E5 : EB (W4.setCell ⟨b, 1, none⟩ (.int .i64 ((j : Int) + 1))).drew b s ((j + 1 : Nat) : Int) 0 at_ d := (E4.set1 ((j : Int) + 1)).drew
              have htm := times_any b s (j + 1) at_ d op st ka m c n _ E5 (by omega) hs ⟨hsn.1, hsn.2.1⟩
              have x5 := XB.drew (x4.keep f5 hg5b)
              have y5 := XB.drew (y4.keep f5 hgb)
              have F5 := (F4.trans f5).drew
              have H4 := hide (⟨F5, x5, y5, hRq, hlk, hq0, hq1, hsn, hrp⟩ : _ ∧ _ ∧ _ ∧ _ ∧ _ ∧ _ ∧ _ ∧ _ ∧ _)
              clear F4 x4 y4 E4 F5 x5 y5 E5 f5 hRq hlk hq0 hq1 hsn hrp
              go_wp2
              go_region
              go_wp2_with fail
              refine htm.mono ?_
              rintro e w6 ⟨f6, op6, st6, ka6, m6, c6, n6, rfl, hp⟩
              obtain ⟨F5, x5, y5, hRq, hlk, hq0, hq1, hsn, hrp⟩ := H4.out
              have x6 := x5.keep f6 hg5b
              have y6 := y5.keep f6 hgb
              have F6 := F5.trans f6
              clear e0 e1 e2 e3 e4 ef el a0 a1 a2 af al htm H4 F5 x5 y5 f6
              obtain ⟨a0, a1, a2, af, al⟩ := x6.cells
              have hnext : 1 ≤ gk ∧ 0 ≤ n6 ∧ ∀ W, FrE g5 w6 W → PcI s.data.toList R (gk - 1) b s at_ d n6 W := by
                obtain ⟨C, hC⟩ : ∃ C, countD s.data.toList (j + 1) = C := ⟨_, rfl⟩
                rw [hC] at hp hrp
                cases C with
                | bad r =>
                  obtain ⟨rfl, hr0, i', at', E6⟩ := hp
                  obtain ⟨hk1, hRb⟩ := pc_times hRq hlk hrp
                  exact ⟨hk1, by omega, fun W hW => .inl ⟨r, i', at', d, hr0, hRb, by omega, by omega, E6.own hW hg5b⟩⟩
                | ok t j' =>
                  obtain ⟨E6, h0, h1, hm⟩ := hp
                  refine ⟨(pc_next hRq hlk ⟨hq0, hq1⟩ hrp hsn h0 (by omega) hm E6).1, h0, fun W hW => (pc_next hRq hlk ⟨hq0, hq1⟩ hrp hsn h0 (by omega) hm (E6.own hW hg5b)).2⟩
              have H6 := hide (⟨F6, x6, y6, hnext⟩ : _ ∧ _ ∧ _ ∧ _)
              clear F6 x6 y6 hnext hp hRq hlk hq0 hq1 hsn hrp
              unfold xV
              go_wp2
              go_roundg (gk - 1)
              case measure => have := H6.out.2.2.2.1; omega
              case rel =>
                obtain ⟨F6, x6, y6, hk1, hn0, hnx⟩ := H6.out
                have fs := set3x_fr w6 g5 op6 st6 ka6 m6 c6
                have x7 := x6.set3x op6 st6 ka6 m6 c6
                have y7 := y6.keep fs hg05
                have F7 := F6.own (by omega) fs
                have I7 := hnx _ fs
                exact ⟨n6, op6, st6, ka6, m6, c6, rfl, F7, x7, y7, I7⟩
            · have hrp : repD s.data.toList j = none := by unfold repD; rw [if_neg c42, if_neg c43, if_neg c63, if_neg c123]
              have hRe : R = .ok q j := (ready_none (t := ⟨0, 0, false⟩) hRq hlk hjl ⟨hq0, hq1⟩ hrp).2.2.2.2
              have hoe : o = if 1000 < q.atoms then .bad 4 else .ok q j := by rw [HO.out, hRe]; rfl
              have hB42 : isB s.data.toList j 42 = false := by unfold isB; rw [beq_eq_false_iff_ne]; exact c42
              have hB43 : isB s.data.toList j 43 = false := by unfold isB; rw [beq_eq_false_iff_ne]; exact c43
              have hB63 : isB s.data.toList j 63 = false := by unfold isB; rw [beq_eq_false_iff_ne]; exact c63
              have hB123 : isB s.data.toList j 123 = false := by unfold isB; rw [beq_eq_false_iff_ne]; exact c123
              have h42 := his 42 _ HE.out
              have h43 := his 43 _ HE.out.drew
              have h63 := his 63 _ HE.out.drew.drew
              have h123 := his 123 _ HE.out.drew.drew.drew
              rw [hB42] at h42
              rw [hB43] at h43
              rw [hB63] at h63
              rw [hB123] at h123
              have H3 := hide (⟨hf, hx, hy, hoe, hsn, hq0⟩ : _ ∧ _ ∧ _ ∧ _ ∧ _ ∧ _)
              clear hf hx hy hE hRq hlk hjl hq0 hq1 hsn hrp his c42 c43 c63 c123 hB42 hB43 hB63 hB123 hoe hRe
              go_wp2_with fail
              refine h42.mono ?_
              rintro e w3 ⟨rfl, hw⟩
              rw [hw]
              clear hw h42
              go_wp2_with fail
              refine h43.mono ?_
              rintro e w3 ⟨rfl, hw⟩
              rw [hw]
              clear hw h43
              go_wp2_with fail
              refine h63.mono ?_
              rintro e w3 ⟨rfl, hw⟩
              rw [hw]
              clear hw h63
              go_wp2_with fail
              refine h123.mono ?_
              rintro e w3 ⟨rfl, hw⟩
              rw [hw]
              clear hw h123
              obtain ⟨hf, hx, hy, hoe, hsn, hq0⟩ := H3.out
              have F4 := hf.drew.drew.drew.drew
              have x4 := XB.drew (XB.drew (XB.drew (XB.drew hx)))
              have y4 := XB.drew (XB.drew (XB.drew (XB.drew hy)))
              have E4 := HE.out.drew.drew.drew.drew
              obtain ⟨W4, hW4⟩ : ∃ W4, wr.drew.drew.drew.drew = W4 := ⟨_, rfl⟩
              rw [hW4] at F4 x4 y4 E4 ⊢
              clear hf hx hy H3 HE hW4
              obtain ⟨e0, e1, e2, e3, e4, ef, el⟩ := E4.cells
              obtain ⟨a0, a1, a2, af, al⟩ := x4.cells
              obtain ⟨z0, z1, z2, zf, zl⟩ := y4.cells
              by_cases hbig : 1000 < n
              · have hqb : 1000 < q.atoms := by have := hsn.2.2; omega
                rw [if_pos hqb] at hoe
                have hf4 := fail_ok b s j at_ d 4 (i : Int) W4 E4
                have H4 := hide (⟨F4, y4, hoe⟩ : _ ∧ _ ∧ _)
                clear F4 x4 y4 E4 hoe hsn hqb e0 e1 e2 e3 e4 ef el a0 a1 a2 af al z0 z1 z2 zf zl
                go_wp2_with fail
                refine hf4.mono ?_
                rintro e w5 ⟨rfl, r5, f5⟩
                obtain ⟨F4, y4, hoe⟩ := H4.out
                have y5 := y4.keep f5 hgb
                have F5 := F4.trans f5
                obtain ⟨e0, e1, e2, e3, e4, ef, el⟩ := r5.cells
                obtain ⟨z0, z1, z2, zf, zl⟩ := y5.cells
                have H5 := hide (⟨F5, y5, r5, hoe⟩ : _ ∧ _ ∧ _ ∧ _)
                clear F4 y4 hoe y5 F5 r5 f5 H4 hf4
                go_wp2
                obtain ⟨F5, y5, r5, hoe⟩ := H5.out
                exact dp_bad rfl rfl rfl rfl y5 r5 F5 hgb (Nat.le_refl _) hoe (by decide) (by decide) (by decide)
              · have hqb : ¬ 1000 < q.atoms := by have := hsn.2.2; omega
                have hnq : n = q.atoms := by have := hsn.2.2; omega
                rw [if_neg hqb] at hoe
                have H4 := hide (⟨F4, y4, E4, hoe, hnq⟩ : _ ∧ _ ∧ _ ∧ _ ∧ _)
                clear F4 x4 y4 E4 hoe hsn hqb hnq
                go_wp2
                obtain ⟨F4, y4, E4, hoe, hnq⟩ := H4.out
                exact dp_ok rfl rfl rfl rfl y4 E4 F4 hgb (Nat.le_refl _) hoe hnq
end Go.Proofs.YtdlljlmgoiobpaaGreatDoor
