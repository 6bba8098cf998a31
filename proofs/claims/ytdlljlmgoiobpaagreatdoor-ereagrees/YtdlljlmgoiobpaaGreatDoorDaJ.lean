/- The document's ReadEre. -/
import Derived.Test.YtdlljlmgoiobpaaGreatDoorDaI
import Derived.Test.YtdlljlmgoiobpaaGreatDoorEX
namespace Go.Proofs.YtdlljlmgoiobpaaGreatDoor
open Go.RowKit Go.Maps
def ereErr (o : Res PtD) : Nat := match o with
  | .bad r => r
  | .ok _ _ => 0
def RdP (o : Res PtD) (w : World) (e : Ending) (w' : World) : Prop := Below w.heap.size w w' ∧ ∃ (op : Int) (st : ByteArray) (ka : Option Addr) (m c : Nat) (pl : Int), e = .returned (.tuple #[.agg #[.int .i64 op, .string st, .slice ka m c], .int .i64 (ereErr o : Int), .int .i64 pl])
theorem y_ret {fn : Func} {g kc kt ku : Nat} {W : World} {op : Int} {st : ByteArray} {ka : Option Addr} {m c : Nat} {n u : Int} {a : Act} {R : Ending → World → Prop} (hr : fn.results = #[.cell kc 32, .tmp kt, .tmp ku]) (ha : a.tmps[kc]? = some (.pointer (some ⟨g, 0, none⟩))) (hn : a.tmps[kt]? = some (.int .i64 n)) (hu : a.tmps[ku]? = some (.int .i64 u)) (hd : a.defers = []) (h : XB W g op st ka m c) (hR : R (.returned (.tuple #[.agg #[.int .i64 op, .string st, .slice ka m c], .int .i64 n, .int .i64 u])) W) : bodyPost Tryz.prog fn R .ret a W := by
  obtain ⟨c0, c1, c2, cf, cl⟩ := h.cells
  refine bodyPost_ret (v := .tuple #[.agg #[.int .i64 op, .string st, .slice ka m c], .int .i64 n, .int .i64 u]) ?_ hd hR
  simp [results, hr, go_sem, ha, hn, hu, c0, c1, c2]
set_option maxRecDepth 100000 in
set_option maxHeartbeats 4000000 in
theorem readere_any (s : ByteArray) (w : World) (hmx : s.size ≤ 1000000000000000) : Calls Tryz.prog 7 #[.string s] w (RdP (readD s.data.toList) w) := by
  have hsl : s.data.toList.length = s.size := by simp
  by_cases hlong : 200 < s.size
  · have hrd : readD s.data.toList = .bad 1 := by unfold readD; rw [if_pos (by rw [hsl]; exact hlong)]
    have hI : (200 : Int) < (s.size : Int) := by omega
    rw [hrd]
    clear hrd hsl
    go_enter Tryz.func7, Tryz.ntmps7
    go_wp2
    exact y_ret rfl rfl rfl rfl rfl (XB.new w 0 ⟨#[]⟩ none 0 0) ⟨(FrE.alloc w.heap.size w _).below (Nat.le_refl _), _, _, _, _, _, _, rfl⟩
  · have hs : s.size ≤ 200 := by omega
    have hI : ¬ ((200 : Int) < (s.size : Int)) := by omega
    have hrd : readD s.data.toList = wholeD s.data.toList (eexprD s.data.toList 20 0) := by unfold readD; rw [if_neg (by rw [hsl]; exact hlong)]
    rw [hrd]
    obtain ⟨W1, hW1⟩ : ∃ W1, (w.alloc (.cells #[.int .i64 0, .string ⟨#[]⟩, .slice none 0 0] 32)).alloc (.cells #[.string s, .int .i64 0, .int .i64 0, .int .i64 0, .int .i64 0] 46) = W1 := ⟨_, rfl⟩
    have E1 : EB W1 (w.heap.size + 1) s ((0 : Nat) : Int) 0 0 ((0 : Nat) : Int) := by
      rw [← hW1]
      have := World.alloc_heap_new (w.alloc (.cells #[.int .i64 0, .string ⟨#[]⟩, .slice none 0 0] 32)) (.cells #[.string s, .int .i64 0, .int .i64 0, .int .i64 0, .int .i64 0] 46)
      rw [World.size_alloc] at this
      exact this
    have f1 : FrE (w.heap.size + 1) w W1 := by rw [← hW1]; exact (FrE.alloc _ _ _).trans (FrE.alloc _ _ _)
    have y1 : XB W1 w.heap.size 0 ⟨#[]⟩ none 0 0 := by rw [← hW1]; exact (XB.new w 0 ⟨#[]⟩ none 0 0).alloc _
    obtain ⟨b, hb⟩ : ∃ b, w.heap.size + 1 = b := ⟨_, rfl⟩
    rw [hb] at E1 f1
    have hca := rexpr_any b s hs 20 0 rfl W1 0 0 E1 (Nat.zero_le _)
    have hgi := goes_expr s.data.toList 20 0
    obtain ⟨o, ho⟩ : ∃ o, eexprD s.data.toList 20 0 = o := ⟨_, rfl⟩
    rw [ho] at hca hgi
    rw [ho]
    have hgb : w.heap.size ≠ b := by omega
    have hwb : w.heap.size ≤ b := by omega
    have HB := hide (⟨hW1, hb⟩ : _ ∧ _)
    have H1 := hide (⟨f1, y1, hsl⟩ : _ ∧ _ ∧ _)
    clear hrd ho E1 f1 y1 hW1 hb hsl hlong
    go_enter Tryz.func7, Tryz.ntmps7
    go_wp2_with fail
    rw [HB.out.1, HB.out.2]
    refine hca.mono ?_
    rintro e w2 ⟨f2, op, st, ka, m, c, n, rfl, hp⟩
    obtain ⟨f1, y1, hsl⟩ := H1.out
    have y2 := y1.keep f2 hgb
    have F2 := f1.trans f2
    have hg2 : b < w2.heap.size := by have := f2.size; have h1 := HB.out.1; have h2 := HB.out.2; rw [← h1, World.size_alloc, World.size_alloc] at this; omega
    obtain ⟨W3, hW3⟩ : ∃ W3, w2.alloc (.cells #[.int .i64 op, .string st, .slice ka m c] 32) = W3 := ⟨_, rfl⟩
    have f23 : ∀ x, FrE x w2 W3 := by intro x; rw [← hW3]; exact FrE.alloc _ _ _
    have x3 : XB W3 w2.heap.size op st ka m c := by rw [← hW3]; exact XB.new w2 op st ka m c
    have y3 := y2.all f23
    have F3 := F2.trans (f23 b)
    have hne : w.heap.size ≠ w2.heap.size := by omega
    have hg2b : w2.heap.size ≠ b := by omega
    clear hca H1 HB f1 y1 f2 y2 F2
    unfold xV
    cases o with
    | bad r =>
      obtain ⟨hr0, _, _, i', at', d', E2⟩ := hp
      have E3 := E2.all f23
      have hrI : (r : Int) ≠ 0 := by omega
      have hrb : ((r : Int) != 0) = true := by rw [bne_iff_ne]; exact hrI
      have hf3 := fail_no b s i' r at' d' 2 i' W3 E3 hrI
      obtain ⟨e0, e1, e2, e3, e4, ef, el⟩ := E3.cells
      obtain ⟨z0, z1, z2, zf, zl⟩ := y3.cells
      have H3 := hide (⟨F3, y3⟩ : _ ∧ _)
      clear F3 y3 x3 E3 E2 f23 hgi hsl hrI
      by_cases hlt : i' < (s.size : Int)
      · go_wp2_with fail
        refine hf3.mono ?_
        rintro e w4 ⟨rfl, hw⟩
        rw [hw]
        clear hw
        go_wp2
        go_region
        go_wp2
        obtain ⟨F3, y3⟩ := H3.out
        have fs := set3x_fr W3 w.heap.size 0 ⟨#[]⟩ none 0 0
        exact y_ret rfl rfl rfl rfl rfl (XB.drew (y3.set3x 0 ⟨#[]⟩ none 0 0)) ⟨(F3.own (Nat.le_refl _) fs).drew.below hwb, _, _, _, _, _, _, rfl⟩
      · go_wp2
        go_region
        go_wp2
        obtain ⟨F3, y3⟩ := H3.out
        have fs := set3x_fr W3 w.heap.size 0 ⟨#[]⟩ none 0 0
        exact y_ret rfl rfl rfl rfl rfl (XB.drew (y3.set3x 0 ⟨#[]⟩ none 0 0)) ⟨(F3.own (Nat.le_refl _) fs).drew.below hwb, _, _, _, _, _, _, rfl⟩
    | ok p j =>
      obtain ⟨_, E2⟩ := hp
      obtain ⟨_, hj, _⟩ := hgi p j (Nat.zero_le _) rfl
      have E3 := E2.all f23
      have hf3 := fail_ok b s j 0 _ 2 j W3 E3
      obtain ⟨e0, e1, e2, e3, e4, ef, el⟩ := E3.cells
      obtain ⟨a0, a1, a2, af, al⟩ := x3.cells
      obtain ⟨z0, z1, z2, zf, zl⟩ := y3.cells
      have HSL := hide hsl
      have H3 := hide (⟨F3, y3⟩ : _ ∧ _)
      clear F3 y3 x3 E3 E2 f23 hgi hsl
      by_cases hlt : j < s.size
      · have hjI : (j : Int) < (s.size : Int) := by omega
        clear e2 e3 e4 a0 a1 a2 af al
        go_wp2_with fail
        refine hf3.mono ?_
        rintro e w5 ⟨rfl, r5, f5⟩
        obtain ⟨F3, y3⟩ := H3.out
        have y5 := y3.keep f5 hgb
        have F5 := F3.trans f5
        clear e0 e1 ef el z0 z1 z2 zf zl
        obtain ⟨e0, e1, e2, e3, e4, ef, el⟩ := r5.cells
        obtain ⟨z0, z1, z2, zf, zl⟩ := y5.cells
        have H5 := hide (⟨F5, y5⟩ : _ ∧ _)
        clear F3 y3 y5 F5 r5 f5 H3 hf3
        have hwr : wholeD s.data.toList (.ok p j) = .bad 2 := by unfold wholeD; simp only; rw [if_pos (by rw [HSL.out]; exact hlt)]
        have HWR := hide hwr
        clear hwr
        go_wp2
        go_region
        go_wp2
        obtain ⟨F5, y5⟩ := H5.out
        have fs := set3x_fr w5 w.heap.size 0 ⟨#[]⟩ none 0 0
        exact y_ret rfl rfl rfl rfl rfl (XB.drew (y5.set3x 0 ⟨#[]⟩ none 0 0)) ⟨(F5.own (Nat.le_refl _) fs).drew.below hwb, 0, ⟨#[]⟩, none, 0, 0, (j : Int), by rw [HWR.out]; rfl⟩
      · have hjI : ¬ ((j : Int) < (s.size : Int)) := by omega
        have hwr : wholeD s.data.toList (.ok p j) = .ok p j := by unfold wholeD; simp only; rw [if_neg (by rw [HSL.out]; exact hlt)]
        have HWR := hide hwr
        clear hwr
        go_wp2
        obtain ⟨F3, y3⟩ := H3.out
        have fs := set3x_fr W3 w.heap.size op st ka m c
        exact y_ret rfl rfl rfl rfl rfl (y3.set3x op st ka m c) ⟨(F3.own (Nat.le_refl _) fs).below hwb, op, st, ka, m, c, 0, by rw [HWR.out]; rfl⟩
end Go.Proofs.YtdlljlmgoiobpaaGreatDoor
