/- The document's reader: a sign, a group. -/
import Derived.Test.YtdlljlmgoiobpaaGreatDoorDaD
import Derived.Test.YtdlljlmgoiobpaaGreatDoorGrB
namespace Go.Proofs.YtdlljlmgoiobpaaGreatDoor
open Go.RowKit Go.Maps
/-- What a call of the document's reader answers. -/
def DP (b : Nat) (s : ByteArray) (at_ d M : Int) (o : Res PtD) (w : World) (e : Ending) (w' : World) : Prop := FrE b w w' ∧ ∃ (op : Int) (st : ByteArray) (ka : Option Addr) (m c : Nat) (n : Int), e = .returned (xV op st ka m c n) ∧ match o with
  | .bad r => r ≠ 0 ∧ 0 ≤ n ∧ n ≤ M ∧ ∃ i' at' d', EB w' b s i' (r : Int) at' d'
  | .ok p j => n = p.atoms ∧ EB w' b s (j : Int) 0 at_ d
def DOK (fn : Nat) (b : Nat) (s : ByteArray) (d M : Int) (ex : Nat → Res PtD) : Prop := ∀ (w : World) (i : Nat) (at_ : Int), EB w b s (i : Int) 0 at_ d → i ≤ s.size → Calls Tryz.prog fn #[.pointer (some ⟨b, 0, none⟩)] w (DP b s at_ d M (ex i) w)
theorem size_setE (W : World) (p : Addr) (v : Value) : (W.setCell p v).heap.size = W.heap.size := by
  show (W.heap.modify _ _).size = _
  rw [Array.size_modify]
theorem dp_bad {fn : Func} {b g kc kt : Nat} {s : ByteArray} {at_ d M : Int} {w W : World} {op0 : Int} {st0 : ByteArray} {ka0 : Option Addr} {m0 c0 : Nat} {op : Int} {st : ByteArray} {ka : Option Addr} {m c : Nat} {n i' at' d' : Int} {r : Nat} {a : Act} {o : Res PtD} (hr : fn.results = #[.cell kc 32, .tmp kt]) (ha : a.tmps[kc]? = some (.pointer (some ⟨g, 0, none⟩))) (hn : a.tmps[kt]? = some (.int .i64 n)) (hd : a.defers = []) (hx : XB W g op0 st0 ka0 m0 c0) (hE : EB W b s i' (r : Int) at' d') (hf : FrE b w W) (hgb : g ≠ b) (hg : w.heap.size ≤ g) (ho : o = .bad r) (hr0 : r ≠ 0) (h0 : 0 ≤ n) (hM : n ≤ M) :
    bodyPost Tryz.prog fn (DP b s at_ d M o w) .ret a (set3x W g op st ka m c) := by
  subst ho
  have fs := set3x_fr W g op st ka m c
  exact x_ret hr ha hn hd (hx.set3x op st ka m c) ⟨hf.own hg fs, _, _, _, _, _, _, rfl, hr0, h0, hM, _, _, _, hE.own fs hgb⟩
theorem dp_ok {fn : Func} {b g kc kt j : Nat} {s : ByteArray} {at_ d M : Int} {w W : World} {op0 : Int} {st0 : ByteArray} {ka0 : Option Addr} {m0 c0 : Nat} {op : Int} {st : ByteArray} {ka : Option Addr} {m c : Nat} {p : PtD} {n : Int} {a : Act} {o : Res PtD} (hr : fn.results = #[.cell kc 32, .tmp kt]) (ha : a.tmps[kc]? = some (.pointer (some ⟨g, 0, none⟩))) (hn : a.tmps[kt]? = some (.int .i64 n)) (hd : a.defers = []) (hx : XB W g op0 st0 ka0 m0 c0) (hE : EB W b s (j : Int) 0 at_ d) (hf : FrE b w W) (hgb : g ≠ b) (hg : w.heap.size ≤ g) (ho : o = .ok p j) (hnp : n = p.atoms) :
    bodyPost Tryz.prog fn (DP b s at_ d M o w) .ret a (set3x W g op st ka m c) := by
  subst ho
  have fs := set3x_fr W g op st ka m c
  exact x_ret hr ha hn hd (hx.set3x op st ka m c) ⟨hf.own hg fs, _, _, _, _, _, _, rfl, hnp, hE.own fs hgb⟩
theorem dp_badD {fn : Func} {b g kc kt : Nat} {s : ByteArray} {at_ d M : Int} {w W : World} {op0 : Int} {st0 : ByteArray} {ka0 : Option Addr} {m0 c0 : Nat} {op : Int} {st : ByteArray} {ka : Option Addr} {m c : Nat} {n i' at' d' : Int} {r : Nat} {a : Act} {o : Res PtD} (hr : fn.results = #[.cell kc 32, .tmp kt]) (ha : a.tmps[kc]? = some (.pointer (some ⟨g, 0, none⟩))) (hn : a.tmps[kt]? = some (.int .i64 n)) (hd : a.defers = []) (hx : XB W g op0 st0 ka0 m0 c0) (hE : EB W b s i' (r : Int) at' d') (hf : FrE b w W) (hgb : g ≠ b) (hg : w.heap.size ≤ g) (ho : o = .bad r) (hr0 : r ≠ 0) (h0 : 0 ≤ n) (hM : n ≤ M) :
    bodyPost Tryz.prog fn (DP b s at_ d M o w) .ret a (set3x W g op st ka m c).drew := by
  subst ho
  have fs := set3x_fr W g op st ka m c
  exact x_ret hr ha hn hd (XB.drew (hx.set3x op st ka m c)) ⟨(hf.own hg fs).drew, _, _, _, _, _, _, rfl, hr0, h0, hM, _, _, _, (hE.own fs hgb).drew⟩
theorem dp_okD {fn : Func} {b g kc kt j : Nat} {s : ByteArray} {at_ d M : Int} {w W : World} {op0 : Int} {st0 : ByteArray} {ka0 : Option Addr} {m0 c0 : Nat} {op : Int} {st : ByteArray} {ka : Option Addr} {m c : Nat} {p : PtD} {n : Int} {a : Act} {o : Res PtD} (hr : fn.results = #[.cell kc 32, .tmp kt]) (ha : a.tmps[kc]? = some (.pointer (some ⟨g, 0, none⟩))) (hn : a.tmps[kt]? = some (.int .i64 n)) (hd : a.defers = []) (hx : XB W g op0 st0 ka0 m0 c0) (hE : EB W b s (j : Int) 0 at_ d) (hf : FrE b w W) (hgb : g ≠ b) (hg : w.heap.size ≤ g) (ho : o = .ok p j) (hnp : n = p.atoms) :
    bodyPost Tryz.prog fn (DP b s at_ d M o w) .ret a (set3x W g op st ka m c).drew := by
  subst ho
  have fs := set3x_fr W g op st ka m c
  exact x_ret hr ha hn hd (XB.drew (hx.set3x op st ka m c)) ⟨(hf.own hg fs).drew, _, _, _, _, _, _, rfl, hnp, (hE.own fs hgb).drew⟩
set_option maxRecDepth 100000 in
set_option maxHeartbeats 2000000 in
theorem sign_any (b : Nat) (s : ByteArray) (i : Nat) (at_ d M : Int) (w : World) (h : EB w b s (i : Int) 0 at_ d) (hi : i < s.size) (hs : s.size ≤ 200) (hM : 0 ≤ M) :
    Calls Tryz.prog 51 #[.pointer (some ⟨b, 0, none⟩), .int .i64 (i : Int)] w (DP b s at_ d M (partS (escSD s.data.toList (i + 1))) w) := by
  have hb : b < w.heap.size := (Array.getElem?_eq_some_iff.1 h).1
  have hgb : w.heap.size ≠ b := by omega
  obtain ⟨W0, hW0⟩ : ∃ W0, w.alloc (.cells #[.int .i64 0, .string ⟨#[]⟩, .slice none 0 0] 32) = W0 := ⟨_, rfl⟩
  have h0 : EB W0 b s (i : Int) 0 at_ d := by rw [← hW0]; exact h.alloc _
  have y0 : XB W0 w.heap.size 0 ⟨#[]⟩ none 0 0 := by rw [← hW0]; exact XB.new w 0 ⟨#[]⟩ none 0 0
  have f0 : FrE b w W0 := by rw [← hW0]; exact FrE.alloc _ _ _
  obtain ⟨e0, e1, e2, e3, e4, ef, el⟩ := h0.cells
  obtain ⟨z0, z1, z2, zf, zl⟩ := y0.cells
  by_cases hlt : i + 1 < s.size
  · have hge : s.data.toList[i + 1]? = some s[i + 1] := by rw [List.getElem?_eq_getElem (by simpa using hlt)]; rfl
    have hne : ((i : Int) + 1 == (s.size : Int)) = false := by rw [beq_eq_false_iff_ne]; omega
    have hiI : (i : Int) + 1 < (s.size : Int) := by omega
    have hii : (0 : Int) ≤ (i : Int) + 1 := by omega
    have hhas := fun W => rhas_any ⟨signsL.toArray⟩ s[i + 1] W (by decide)
    have hesc : partS (escSD s.data.toList (i + 1)) = if signsL.contains s[i + 1] = true then .ok ⟨.mk 2 [s[i + 1]] [], 1⟩ (i + 2) else .bad 2 := by
      unfold escSD
      rw [hge]
      simp only
      split
      · rfl
      · rfl
    have hhb : hasB ⟨signsL.toArray⟩ s[i + 1] = signsL.contains s[i + 1] := by unfold hasB; simp
    rw [hhb] at hhas
    rw [hesc]
    cases hc : signsL.contains s[i + 1] with
    | true =>
      rw [hc] at hhas
      simp only [if_true]
      have H0 := hide (⟨h0, y0, f0⟩ : _ ∧ _ ∧ _)
      clear h h0 y0 f0 hge hesc hhb hc
      have hi2 : (i : Int) + 2 ≤ (s.size : Int) := by omega
      have hi12 : (i : Int) + 1 ≤ (i : Int) + 2 := by omega
      go_enter Tryz.func51, Tryz.ntmps51
      go_wp2_with fail
      refine (hhas W0).mono ?_
      rintro e w2 ⟨rfl, hw⟩
      rw [hw]
      clear hw hhas
      obtain ⟨h0, y0, f0⟩ := H0.out
      have f2 := FrE.set b W0 1 (.int .i64 ((i : Int) + 2))
      have y2 := y0.keep f2 hgb
      have E2 : EB (W0.setCell ⟨b, 1, none⟩ (.int .i64 ((i : Int) + 2))) b s ((i + 2 : Nat) : Int) 0 at_ d := h0.set1 ((i : Int) + 2)
      have H2 := hide (⟨y2, E2, f0.trans f2⟩ : _ ∧ _ ∧ _)
      clear h0 y0 f0 f2 y2 E2 H0
      go_wp2
      obtain ⟨y2, E2, F2⟩ := H2.out
      exact dp_ok rfl rfl rfl rfl y2 E2 F2 hgb (Nat.le_refl _) rfl rfl
    | false =>
      rw [hc] at hhas
      simp only [Bool.false_eq_true, if_false]
      have hf2 := fail_ok b s i at_ d 2 i W0 h0
      have H0 := hide (⟨y0, f0⟩ : _ ∧ _)
      clear h h0 y0 f0 hge hesc hhb hc
      go_enter Tryz.func51, Tryz.ntmps51
      go_wp2_with fail
      refine (hhas W0).mono ?_
      rintro e w2 ⟨rfl, hw⟩
      rw [hw]
      clear hw hhas
      go_wp2_with fail
      refine hf2.mono ?_
      rintro e w5 ⟨rfl, r5, f5⟩
      obtain ⟨y0, f0⟩ := H0.out
      have y5 := y0.keep f5 hgb
      have F5 := f0.trans f5
      clear z0 z1 z2 zf zl e0 e1 e2 e3 e4 ef el
      obtain ⟨z0, z1, z2, zf, zl⟩ := y5.cells
      have H5 := hide (⟨y5, F5, r5⟩ : _ ∧ _ ∧ _)
      clear y5 F5 r5 f5 y0 f0 H0 hW0
      go_wp2
      obtain ⟨y5, F5, r5⟩ := H5.out
      exact dp_bad rfl rfl rfl rfl y5 r5 F5 hgb (Nat.le_refl _) rfl (by decide) (by decide) hM
  · have hge : s.data.toList[i + 1]? = none := List.getElem?_eq_none (by simp; omega)
    have hne : ((i : Int) + 1 == (s.size : Int)) = true := by rw [beq_iff_eq]; omega
    have hesc : partS (escSD s.data.toList (i + 1)) = .bad 2 := by
      unfold escSD
      rw [hge]
      rfl
    rw [hesc]
    have hf2 := fail_ok b s i at_ d 2 ((i : Int) + 1) W0 h0
    have H0 := hide (⟨y0, f0⟩ : _ ∧ _)
    clear h h0 y0 f0 hge hesc
    go_enter Tryz.func51, Tryz.ntmps51
    go_wp2_with fail
    refine hf2.mono ?_
    rintro e w5 ⟨rfl, r5, f5⟩
    obtain ⟨y0, f0⟩ := H0.out
    have y5 := y0.keep f5 hgb
    have F5 := f0.trans f5
    clear z0 z1 z2 zf zl e0 e1 e2 e3 e4 ef el
    obtain ⟨z0, z1, z2, zf, zl⟩ := y5.cells
    have H5 := hide (⟨y5, F5, r5⟩ : _ ∧ _ ∧ _)
    clear y5 F5 r5 f5 y0 f0 H0 hW0
    go_wp2
    obtain ⟨y5, F5, r5⟩ := H5.out
    exact dp_bad rfl rfl rfl rfl y5 r5 F5 hgb (Nat.le_refl _) rfl (by decide) (by decide) hM
set_option maxRecDepth 100000 in
set_option maxHeartbeats 2000000 in
theorem rgroup_any (b : Nat) (s : ByteArray) (i d f : Nat) (at_ : Int) (ex : Nat → Res PtD) (w : World) (h : EB w b s (i : Int) 0 at_ (d : Int)) (hi : i < s.size) (hs : s.size ≤ 200) (hd : d + f = 20) (hex : f ≠ 0 → DOK 12 b s ((d : Int) + 1) 600000 ex) (hgo : f ≠ 0 → GoesE s.data.toList ex) :
    Calls Tryz.prog 47 #[.pointer (some ⟨b, 0, none⟩), .int .i64 (i : Int)] w (DP b s at_ (d : Int) 600000 (grpD f ex s.data.toList (i + 1)) w) := by
  have hsl : s.data.toList.length = s.size := by simp
  have hb : b < w.heap.size := (Array.getElem?_eq_some_iff.1 h).1
  have hgb : w.heap.size ≠ b := by omega
  by_cases hf0 : f = 0
  · obtain ⟨W0, hW0⟩ : ∃ W0, w.alloc (.cells #[.int .i64 0, .string ⟨#[]⟩, .slice none 0 0] 32) = W0 := ⟨_, rfl⟩
    have h0 : EB W0 b s (i : Int) 0 at_ d := by rw [← hW0]; exact h.alloc _
    have y0 : XB W0 w.heap.size 0 ⟨#[]⟩ none 0 0 := by rw [← hW0]; exact XB.new w 0 ⟨#[]⟩ none 0 0
    have f0 : FrE b w W0 := by rw [← hW0]; exact FrE.alloc _ _ _
    obtain ⟨e0, e1, e2, e3, e4, ef, el⟩ := h0.cells
    have hge : (20 : Int) ≤ (d : Int) := by omega
    have hgr : grpD f ex s.data.toList (i + 1) = .bad 5 := by unfold grpD; rw [if_pos hf0]
    rw [hgr]
    have hf2 := fail_ok b s i at_ d 5 i W0 h0
    have H0 := hide (⟨y0, f0⟩ : _ ∧ _)
    clear h h0 y0 f0 hgr hd hex hgo hf0
    go_enter Tryz.func47, Tryz.ntmps47
    go_wp2_with fail
    refine hf2.mono ?_
    rintro e w5 ⟨rfl, r5, f5⟩
    obtain ⟨y0, f0⟩ := H0.out
    have y5 := y0.keep f5 hgb
    have F5 := f0.trans f5
    clear e0 e1 e2 e3 e4 ef el
    obtain ⟨z0, z1, z2, zf, zl⟩ := y5.cells
    have H5 := hide (⟨y5, F5, r5⟩ : _ ∧ _ ∧ _)
    clear y5 F5 r5 f5 y0 f0 H0 hW0
    go_wp2
    obtain ⟨y5, F5, r5⟩ := H5.out
    exact dp_bad rfl rfl rfl rfl y5 r5 F5 hgb (Nat.le_refl _) rfl (by decide) (by decide) (by decide)
  · have hlt20 : ¬ ((20 : Int) ≤ (d : Int)) := by omega
    have hgr : grpD f ex s.data.toList (i + 1) = shutD s.data.toList (ex (i + 1)) := by unfold grpD; rw [if_neg hf0]
    rw [hgr]
    have hex := hex hf0
    have hgi := hgo hf0 (i + 1)
    obtain ⟨e0, e1, e2, e3, e4, ef, el⟩ := h.cells
    have hsz : ((w.setCell ⟨b, 4, none⟩ (.int .i64 ((d : Int) + 1))).setCell ⟨b, 1, none⟩ (.int .i64 ((i : Int) + 1))).heap.size = w.heap.size := by rw [size_setE, size_setE]
    obtain ⟨W1, hW1⟩ : ∃ W1, ((w.setCell ⟨b, 4, none⟩ (.int .i64 ((d : Int) + 1))).setCell ⟨b, 1, none⟩ (.int .i64 ((i : Int) + 1))).alloc (.cells #[.int .i64 0, .string ⟨#[]⟩, .slice none 0 0] 32) = W1 := ⟨_, rfl⟩
    have E1 : EB W1 b s ((i + 1 : Nat) : Int) 0 at_ ((d : Int) + 1) := by rw [← hW1]; exact ((h.set4 ((d : Int) + 1)).set1 ((i : Int) + 1)).alloc _
    have f1 : FrE b w W1 := by rw [← hW1]; exact ((FrE.set b w 4 _).trans (FrE.set b _ 1 _)).trans (FrE.alloc _ _ _)
    have y1 : XB W1 w.heap.size 0 ⟨#[]⟩ none 0 0 := by
      rw [← hW1]
      have := XB.new ((w.setCell ⟨b, 4, none⟩ (.int .i64 ((d : Int) + 1))).setCell ⟨b, 1, none⟩ (.int .i64 ((i : Int) + 1))) 0 ⟨#[]⟩ none 0 0
      rw [hsz] at this
      exact this
    have hcall := hex W1 (i + 1) at_ E1 (by omega)
    obtain ⟨r, hr⟩ : ∃ r, ex (i + 1) = r := ⟨_, rfl⟩
    rw [hr] at hcall hgi
    rw [hr]
    have H0 := hide (⟨f1, y1, hW1⟩ : _ ∧ _ ∧ _)
    clear h hgr hgo hd f1 y1 E1 hsz hr hex hW1
    go_enter Tryz.func47, Tryz.ntmps47
    go_wp2_with fail
    rw [H0.out.2.2]
    refine hcall.mono ?_
    rintro e w2 ⟨f2, op, st, ka, m, c, n, rfl, hp⟩
    obtain ⟨f1, y1, _⟩ := H0.out
    have F2 := f1.trans f2
    have y2 := y1.keep f2 hgb
    have hg2 : w.heap.size < w2.heap.size := y2.cells.2.2.2.2
    obtain ⟨W3, hW3⟩ : ∃ W3, w2.alloc (.cells #[.int .i64 op, .string st, .slice ka m c] 32) = W3 := ⟨_, rfl⟩
    have f23 : ∀ x, FrE x w2 W3 := by intro x; rw [← hW3]; exact FrE.alloc _ _ _
    have x3 : XB W3 w2.heap.size op st ka m c := by rw [← hW3]; exact XB.new w2 op st ka m c
    have y3 := y2.all f23
    have F3 := F2.trans (f23 b)
    have hg2b : w2.heap.size ≠ b := by omega
    have hne : w.heap.size ≠ w2.heap.size := by omega
    clear e0 e1 e2 e3 e4 ef el hcall f2 f1 y1 y2 F2 H0
    unfold xV
    cases r with
    | bad r =>
      obtain ⟨hr0, hn0, hnM, i', at', d', E2⟩ := hp
      have E3 := E2.all f23
      have hrI : (r : Int) ≠ 0 := by omega
      have hi3 := is_no b s i' r at' d' 41 W3 E3 hrI
      have hf3 := fail_no b s i' r at' d' 2 i' W3.drew E3.drew hrI
      obtain ⟨e0, e1, e2, e3, e4, ef, el⟩ := E3.cells
      obtain ⟨a0, a1, a2, af, al⟩ := x3.cells
      obtain ⟨z0, z1, z2, zf, zl⟩ := y3.cells
      have H3 := hide (⟨F3, y3, E3⟩ : _ ∧ _ ∧ _)
      clear F3 y3 E3 x3 E2 f23 hrI hgi af
      go_wp2_with fail
      refine hi3.mono ?_
      rintro e w4 ⟨rfl, hw⟩
      rw [hw]
      clear hw
      go_wp2_with fail
      refine hf3.mono ?_
      rintro e w4 ⟨rfl, hw⟩
      rw [hw]
      clear hw
      go_wp2
      obtain ⟨F3, y3, E3⟩ := H3.out
      have fs := (FrE.set b W3 1 (.int .i64 (wrap64 (i' + 1)))).trans (FrE.set b _ 4 (.int .i64 (wrap64 (d' - 1))))
      have E4 := (E3.set1 (wrap64 (i' + 1))).set4 (wrap64 (d' - 1))
      have y4 := y3.keep fs hgb
      exact dp_badD rfl rfl rfl rfl y4 E4 (F3.trans fs) hgb (Nat.le_refl _) rfl hr0 hn0 hnM
    | ok p j =>
      obtain ⟨rfl, E2⟩ := hp
      obtain ⟨hij, hj, hp0, hp1⟩ := hgi p j (by rw [hsl]; omega) rfl
      have E3 := E2.all f23
      have hi3 := is_ok b s j at_ _ 41 W3 E3
      obtain ⟨e0, e1, e2, e3, e4, ef, el⟩ := E3.cells
      obtain ⟨a0, a1, a2, af, al⟩ := x3.cells
      obtain ⟨z0, z1, z2, zf, zl⟩ := y3.cells
      have hj2 : j ≤ s.size := by rw [← hsl]; exact hj
      by_cases c41 : s.data.toList[j]? = some 41
      · have hB : isB s.data.toList j 41 = true := by unfold isB; rw [c41]; rfl
        rw [hB] at hi3
        have H3 := hide (⟨F3, y3, E3, c41⟩ : _ ∧ _ ∧ _ ∧ _)
        clear F3 y3 E3 x3 E2 f23 hgi af c41 hB hj hij hp0 hp1 hsl
        go_wp2_with fail
        refine hi3.mono ?_
        rintro e w4 ⟨rfl, hw⟩
        rw [hw]
        clear hw
        go_wp2
        obtain ⟨F3, y3, E3, c41⟩ := H3.out
        have fs := (FrE.set b W3 1 (.int .i64 ((j : Int) + 1))).trans (FrE.set b _ 4 (.int .i64 (d : Int)))
        have E4 : EB ((W3.setCell ⟨b, 1, none⟩ (.int .i64 ((j : Int) + 1))).setCell ⟨b, 4, none⟩ (.int .i64 (d : Int))) b s ((j + 1 : Nat) : Int) 0 at_ (d : Int) := (E3.set1 ((j : Int) + 1)).set4 (d : Int)
        have y4 := y3.keep fs hgb
        exact dp_okD rfl rfl rfl rfl y4 E4 (F3.trans fs) hgb (Nat.le_refl _) (by unfold shutD; simp only; rw [if_pos c41]) rfl
      · have hB : isB s.data.toList j 41 = false := by unfold isB; rw [beq_eq_false_iff_ne]; exact c41
        rw [hB] at hi3
        have hf3 := fail_ok b s j at_ _ 2 j W3.drew E3.drew
        have H3 := hide (⟨F3, y3, x3, c41, hp0, hp1⟩ : _ ∧ _ ∧ _ ∧ _ ∧ _ ∧ _)
        clear F3 y3 E3 x3 E2 f23 hgi af c41 hB hj hij hp0 hp1 hsl e2 e3 e4
        go_wp2_with fail
        refine hi3.mono ?_
        rintro e w4 ⟨rfl, hw⟩
        rw [hw]
        clear hw
        go_wp2_with fail
        refine hf3.mono ?_
        rintro e w5 ⟨rfl, E5, f5⟩
        obtain ⟨F3, y3, x3, c41, hp0, hp1⟩ := H3.out
        have y5 := (XB.drew y3).keep f5 hgb
        have x5 := (XB.drew x3).keep f5 hg2b
        have F5 := F3.drew.trans f5
        clear e0 e1 ef el a0 a1 a2 al z0 z1 z2 zf zl
        obtain ⟨e0, e1, e2, e3, e4, ef, el⟩ := E5.cells
        obtain ⟨a0, a1, a2, af, al⟩ := x5.cells
        obtain ⟨z0, z1, z2, zf, zl⟩ := y5.cells
        have H5 := hide (⟨y5, F5, E5, c41, hp0, hp1⟩ : _ ∧ _ ∧ _ ∧ _ ∧ _ ∧ _)
        clear y5 F5 E5 x5 f5 F3 y3 x3 c41 hp0 hp1 H3 hi3 hf3 af
        go_wp2
        obtain ⟨y5, F5, E5, c41, hp0, hp1⟩ := H5.out
        have fs := (FrE.set b w5 1 (.int .i64 ((j : Int) + 1))).trans (FrE.set b _ 4 (.int .i64 (d : Int)))
        have E6 := (E5.set1 ((j : Int) + 1)).set4 (d : Int)
        have y6 := y5.keep fs hgb
        exact dp_bad rfl rfl rfl rfl y6 E6 (F5.trans fs) hgb (Nat.le_refl _) (by unfold shutD; simp only; rw [if_neg c41]) (by decide) hp0 (by omega)
end Go.Proofs.YtdlljlmgoiobpaaGreatDoor
