/- The document's reader: an expression. -/
import Derived.Test.YtdlljlmgoiobpaaGreatDoorDaH
import Derived.Test.YtdlljlmgoiobpaaGreatDoorEX
namespace Go.Proofs.YtdlljlmgoiobpaaGreatDoor
open Go.RowKit Go.Maps
/-- Where an expression is read. -/
def ExS (br : Nat → Res PtD) (l : List UInt8) (o : Res PtD) (b : Nat) (s : ByteArray) (at_ d : Int) (mm : Nat) (cnt : Int) (nK : Nat) (W : World) : Prop :=
  (∃ (ps : List PtD) (i : Nat), nK = ps.length ∧ ps.length ≤ i ∧ i ≤ l.length ∧ l.length ≤ i + mm ∧ cnt = sumN ps ∧ 0 ≤ cnt ∧ cnt ≤ 1000 * (i : Int) ∧ o = joinR 4 (branchesD br l mm ps i) ∧ EB W b s (i : Int) 0 at_ d) ∨
  (nK ≤ 201 ∧ ∃ (r : Nat) (i' at' d' : Int), r ≠ 0 ∧ 0 ≤ cnt ∧ cnt ≤ 600000 ∧ o = .bad r ∧ EB W b s i' (r : Int) at' d')
set_option maxRecDepth 100000 in
set_option maxHeartbeats 8000000 in
theorem rexpr_step (b : Nat) (s : ByteArray) (d : Int) (br : Nat → Res PtD) (hs : s.size ≤ 200) (hbr : DOK 21 b s d 300000 br) (hgo : GoesE s.data.toList br) :
    DOK 12 b s d 600000 (exprOf br s.data.toList) := by
  intro w i at_ h hi
  have hsl : s.data.toList.length = s.size := by simp
  have hb : b < w.heap.size := (Array.getElem?_eq_some_iff.1 h).1
  have hgb : w.heap.size ≠ b := by omega
  obtain ⟨o, ho⟩ : ∃ o, exprOf br s.data.toList i = o := ⟨_, rfl⟩
  rw [ho]
  obtain ⟨W0, hW0⟩ : ∃ W0, w.alloc (.cells #[.int .i64 0, .string ⟨#[]⟩, .slice none 0 0] 32) = W0 := ⟨_, rfl⟩
  have E0 : EB W0 b s (i : Int) 0 at_ d := by rw [← hW0]; exact h.alloc _
  have y0 : XB W0 w.heap.size 0 ⟨#[]⟩ none 0 0 := by rw [← hW0]; exact XB.new w 0 ⟨#[]⟩ none 0 0
  have f0 : FrE b w W0 := by rw [← hW0]; exact FrE.alloc _ _ _
  have hca := hbr W0 i at_ E0 hi
  obtain ⟨r, hr⟩ : ∃ r, br i = r := ⟨_, rfl⟩
  have hgi := hgo i
  rw [hr] at hca hgi
  unfold exprOf at ho
  rw [hr] at ho
  have H0 := hide (⟨y0, f0, hsl, ho⟩ : _ ∧ _ ∧ _ ∧ _)
  clear h E0 y0 f0 hsl ho hr
  go_enter Tryz.func12, Tryz.ntmps12
  go_wp2_with fail
  refine hca.mono ?_
  rintro e w1 ⟨f1, op, st, ka, m, c, n, rfl, hp⟩
  obtain ⟨y0, f0, hsl, ho⟩ := H0.out
  have y1 := y0.keep f1 hgb
  have F1 := f0.trans f1
  have hg1 : w.heap.size < w1.heap.size := y1.cells.2.2.2.2
  obtain ⟨g4, hg4⟩ : ∃ g4, w1.heap.size = g4 := ⟨_, rfl⟩
  obtain ⟨W2, hW2⟩ : ∃ W2, w1.alloc (.cells #[.int .i64 op, .string st, .slice ka m c] 32) = W2 := ⟨_, rfl⟩
  have f12 : ∀ x, FrE x w1 W2 := by intro x; rw [← hW2]; exact FrE.alloc _ _ _
  have x2 : XB W2 g4 op st ka m c := by rw [← hW2, ← hg4]; exact XB.new w1 op st ka m c
  have y2 := y1.all f12
  have F2 := F1.trans (f12 b)
  have hz2 : W2.heap.size = g4 + 1 := by rw [← hW2, World.size_alloc, hg4]
  rw [hg4] at hg1
  clear hca H0 hW0 y0 f0 y1 F1
  unfold xV
  cases r with
  | bad r =>
    obtain ⟨hr0, hn0, hnM, i', at', d', E1⟩ := hp
    have E2 := E1.all f12
    have hrI : (r : Int) ≠ 0 := by omega
    have his := is_no b s i' r at' d' 124 W2 E2 hrI
    have hoe : o = .bad r := ho.symm
    obtain ⟨a0, a1, a2, af, al⟩ := x2.cells
    obtain ⟨z0, z1, z2, zf, zl⟩ := y2.cells
    have H2 := hide (⟨F2, y2, E2, hoe⟩ : _ ∧ _ ∧ _ ∧ _)
    have hne : w.heap.size ≠ g4 := by omega
    clear F2 y2 x2 E2 E1 f12 hoe ho hsl hgi hrI af hz2
    go_wp2_with fail
    refine his.mono ?_
    rintro e w3 ⟨rfl, hw⟩
    rw [hw]
    clear hw his
    go_wp2
    obtain ⟨F2, y2, E2, hoe⟩ := H2.out
    exact dp_badD rfl rfl rfl rfl y2 E2 F2 hgb (Nat.le_refl _) hoe hr0 hn0 (by omega)
  | ok p j =>
    obtain ⟨rfl, E1⟩ := hp
    obtain ⟨hij, hjl, hp0, hp1⟩ := hgi p j (by rw [hsl]; exact hi) rfl
    have E2 := E1.all f12
    have his := is_ok b s j at_ d 124 W2 E2
    simp only at ho
    have hjs : j ≤ s.size := by rw [← hsl]; exact hjl
    obtain ⟨a0, a1, a2, af, al⟩ := x2.cells
    obtain ⟨z0, z1, z2, zf, zl⟩ := y2.cells
    have hne : w.heap.size ≠ g4 := by omega
    by_cases c124 : s.data.toList[j]? = some 124
    · have hB : isB s.data.toList j 124 = true := by unfold isB; rw [c124]; rfl
      rw [hB] at his
      have HSL := hide hsl
      have H2 := hide (⟨F2, x2, y2, E2, ho, hij, hjl, hp0, hp1, hz2⟩ : _ ∧ _ ∧ _ ∧ _ ∧ _ ∧ _ ∧ _ ∧ _ ∧ _ ∧ _)
      clear F2 x2 y2 E2 E1 f12 ho hgi hij hjl hp0 hp1 hB c124 hsl hz2
      go_wp2_with fail
      refine his.mono ?_
      rintro e w3 ⟨rfl, hw⟩
      rw [hw]
      clear hw his
      go_wp2
      obtain ⟨F2, x2, y2, E2, ho, hij, hjl, hp0, hp1, hz2⟩ := H2.out
      have hw2 : w.heap.size < W2.heap.size := by omega
      have hb2 : b < W2.heap.size := by omega
      obtain ⟨W3, hW3⟩ : ∃ W3, ((W2.alloc (.cells #[.int .i64 op, .string st, .slice ka m c] 32)).alloc (.cells #[.int .i64 4, .string ⟨#[]⟩, .slice (some ⟨W2.heap.size, 0, none⟩) 1 1] 32)).drew = W3 := ⟨_, rfl⟩
      have f3 : ∀ x, FrE x W2 W3 := by intro x; rw [← hW3]; exact ((FrE.alloc x _ _).trans (FrE.alloc x _ _)).drew
      have F3 := F2.trans (f3 b)
      have y3 := y2.all f3
      have E3 := E2.all f3
      have x3 : XB W3 (W2.heap.size + 1) 4 ⟨#[]⟩ (some ⟨W2.heap.size, 0, none⟩) 1 1 := by
        rw [← hW3]
        have := XB.new (W2.alloc (.cells #[.int .i64 op, .string st, .slice ka m c] 32)) 4 ⟨#[]⟩ (some ⟨W2.heap.size, 0, none⟩) 1 1
        rw [World.size_alloc] at this
        exact this
      have own3 : W3.ownsRow W2.heap.size 32 3 (.slice (some ⟨W2.heap.size, 0, none⟩) 1 1) 1 [.int .i64 op, .string st, .slice ka m c] := by
        refine ⟨rfl, .inr ⟨W2.heap.size, 1, #[.int .i64 op, .string st, .slice ka m c], rfl, Nat.le_refl _, ?_, Nat.le_refl _, by unfold maxLen; omega, rfl, rfl⟩⟩
        rw [← hW3]
        exact (Below.heap_alloc _ _ _ (by rw [World.size_alloc]; omega)).trans (World.alloc_heap_new W2 _)
      obtain ⟨B, hBe⟩ : ∃ B, W2.heap.size = B := ⟨_, rfl⟩
      rw [hBe] at hw2 hb2 x3 own3
      have hsum0 : sumN [p] = p.atoms := by unfold sumN; simp
      have S3 : ExS br s.data.toList o b s at_ d s.data.toList.length p.atoms 1 W3 := .inl ⟨[p], j, rfl, by simp; omega, hjl, by omega, hsum0.symm, hp0, by omega, ho.symm, E3⟩
      have H3 := hide (⟨F3, x3, own3, y3, S3⟩ : _ ∧ _ ∧ _ ∧ _ ∧ _)
      rw [hW3, hBe]
      clear F2 x2 y2 E2 ho hij hjl hp0 hp1 hz2 f3 F3 y3 E3 x3 own3 S3 H2 hW2 hg4 hBe hW3 a0 a1 a2 af al z0 z1 z2 zf zl hsum0
      go_loopg [5] s.data.toList.length (fun mm v5 wr => ∃ (cnt : Int) (gk nK cK : Nat) (xs : List Value), v5 = .int .i64 cnt ∧ FrE b w wr ∧ XB wr (B + 1) 4 ⟨#[]⟩ (some ⟨gk, 0, none⟩) nK cK ∧ wr.ownsRow B 32 3 (.slice (some ⟨gk, 0, none⟩) nK cK) nK xs ∧ gk ≠ B + 1 ∧ XB wr w.heap.size 0 ⟨#[]⟩ none 0 0 ∧ ExS br s.data.toList o b s at_ d mm cnt nK wr)
      case atStart => exact ⟨p.atoms, B, 1, 1, _, rfl, H3.out.1, H3.out.2.1, H3.out.2.2.1, by omega, H3.out.2.2.2.1, H3.out.2.2.2.2⟩
      case round =>
        clear H3
        obtain ⟨cnt, gk', nK, cK, xs, rfl, hf, hx, hown, hne', hy, hS⟩ := hrel
        rcases hS with ⟨ps, i, hnK, hpi, hil, hlk, hcnt, hc0, hc1, hoN, hE⟩ | ⟨hn201, r, i', at', d', hr0, hc0, hc1, hoe, hE⟩
        · have his := is_ok b s i at_ d 124 wr hE
          have hiS : i ≤ s.size := by rw [← HSL.out]; exact hil
          by_cases c124 : s.data.toList[i]? = some 124
          · have hB : isB s.data.toList i 124 = true := by unfold isB; rw [c124]; rfl
            rw [hB] at his
            have hlt : i < s.size := by rw [← HSL.out]; exact (List.getElem?_eq_some_iff.1 c124).1
            have hk1 : 1 ≤ gk := by rw [HSL.out] at hlk; omega
            obtain ⟨e0, e1, e2, e3, e4, ef, el⟩ := hE.cells
            have fs := FrE.set b wr 1 (.int .i64 ((i : Int) + 1))
            have E4 : EB (wr.setCell ⟨b, 1, none⟩ (.int .i64 ((i : Int) + 1))).drew b s ((i + 1 : Nat) : Int) 0 at_ d := (hE.set1 ((i : Int) + 1)).drew
            have hca := hbr _ (i + 1) at_ E4 (by omega)
            obtain ⟨r, hr⟩ : ∃ r, br (i + 1) = r := ⟨_, rfl⟩
            have hgi := hgo (i + 1)
            rw [hr] at hca hgi
            have hoN' : o = joinR 4 (onB br s.data.toList (gk - 1) ps r) := by rw [hoN, branches_step c124 hk1, hr]
            have x4 := XB.drew (hx.keep fs (by omega))
            have y4 := XB.drew (hy.keep fs hgb)
            have F4 := (hf.trans fs).drew
            have own4 : (wr.setCell ⟨b, 1, none⟩ (.int .i64 ((i : Int) + 1))).drew.ownsRow B 32 3 (.slice (some ⟨gk', 0, none⟩) nK cK) nK xs := row_stay hown (fun q hq => fs.block q (own_in hown hq).2 (by have := (own_in hown hq).1; omega))
            have H4 := hide (⟨F4, x4, own4, y4, hnK, hpi, hlk, hcnt, hc0, hc1, hoN', hne'⟩ : _ ∧ _ ∧ _ ∧ _ ∧ _ ∧ _ ∧ _ ∧ _ ∧ _ ∧ _ ∧ _ ∧ _)
            clear hf hx hown hy hE fs E4 x4 y4 F4 own4 hnK hpi hil hlk hcnt hc0 hc1 hoN hoN' hne' hr hB c124
            go_wp2_with fail
            refine his.mono ?_
            rintro e w3 ⟨rfl, hw⟩
            rw [hw]
            clear hw his
            go_wp2_with fail
            refine hca.mono ?_
            rintro e w3 ⟨f3, op, st, ka, m, c, n, rfl, hp⟩
            obtain ⟨F4, x4, own4, y4, hnK, hpi, hlk, hcnt, hc0, hc1, hoN, hne'⟩ := H4.out
            have x3 := x4.keep f3 (by omega)
            have y3 := y4.keep f3 hgb
            have F3 := F4.trans f3
            have own3 : w3.ownsRow B 32 3 (.slice (some ⟨gk', 0, none⟩) nK cK) nK xs := row_stay own4 (fun q hq => f3.block q (own_in own4 hq).2 (by have := (own_in own4 hq).1; omega))
            have hn200 : nK ≤ 200 := by omega
            have hsz3 : B + 2 ≤ w3.heap.size := by have := x3.cells.2.2.2.2; omega
            have hnb : 0 ≤ n ∧ n ≤ 300000 := by
              cases r with
              | bad r => obtain ⟨_, h0, h1, _⟩ := hp; omega
              | ok p j =>
                obtain ⟨rfl, _⟩ := hp
                obtain ⟨g1, g2, g3, g4⟩ := hgi p j (by rw [HSL.out]; omega) rfl
                have g2' : j ≤ s.size := by rw [← HSL.out]; exact g2
                exact ⟨g3, by omega⟩
            have hwc : IntKind.i64.wrap (cnt + n) = cnt + n := by rw [IntKind.wrap_i64]; omega
            obtain ⟨i0, hi0, z0, z1, z2⟩ := info_parts Tryz.info32
            obtain ⟨a0, a1, a2, af, al⟩ := x3.cells
            have HO3 := hide own3
            have HX3 := hide x3
            have H5 := hide (⟨y3, F3, hnK, hpi, hlk, hcnt, hc0, hc1, hoN, hp, hnb, hne'⟩ : _ ∧ _ ∧ _ ∧ _ ∧ _ ∧ _ ∧ _ ∧ _ ∧ _ ∧ _ ∧ _ ∧ _)
            clear F4 x4 own4 y4 hnK hpi hlk hcnt hc0 hc1 hoN x3 y3 F3 own3 f3 hp e0 e1 e2 e3 e4 ef el hca H4 hnb hne'
            unfold xV
            go_wp2_with (at_builtin; refine wpList_append_lies _ rfl (.tmp 37) (.tmp 39) 30 rfl B 32 i0 _ 3 48 Tryz.underlying30' hi0 z0 z1 z2 rfl (by decide) (.slice (some ⟨gk', 0, none⟩) nK cK) nK xs rfl ((HO3.out.alloc _).alloc _) ⟨w3.heap.size + 1, 0, none⟩ 1 1 [.int .i64 op, .string st, .slice ka m c] rfl rfl (news3 _ _ (by rw [World.size_alloc]) _ _ _ _) (by simp [Value.oneCell']) (by decide) (by unfold maxLen; omega) (by omega) (by rw [World.size_alloc, World.size_alloc]; omega) _ rfl ?_; intro g6 c6 w6 hown6 hg6 hat6 hlt6; have x6 : XB w6 (B + 1) 4 ⟨#[]⟩ (some ⟨gk', 0, none⟩) nK cK := (hg6.block _ (by rw [World.size_alloc, World.size_alloc]; omega) (fun e => H5.out.2.2.2.2.2.2.2.2.2.2.2 (Option.some.inj e).symm)).trans ((Below.heap_alloc _ _ _ (by rw [World.size_alloc]; omega)).trans ((Below.heap_alloc _ _ _ (by omega)).trans HX3.out)); obtain ⟨p0, p1, p2, pf, pl⟩ := x6.cells; have H6 := hide (⟨hown6, hg6, x6, hat6⟩ : _ ∧ _ ∧ _ ∧ _); clear hown6 hg6 hat6 hlt6 x6)
            go_roundg (gk - 1)
            case measure => omega
            case rel =>
              obtain ⟨hown6, hg6, x6, hat6⟩ := H6.out
              obtain ⟨y3, F3, hnK, hpi, hlk, hcnt, hc0, hc1, hoN, hp, hnb, hne'⟩ := H5.out
              have F6 := fr_grown2 F3 hg6 HO3.out (by omega)
              have hst : ∀ q, q < B → w6.heap[q]? = w3.heap[q]? := fun q hq =>
                (hg6.block q (by rw [World.size_alloc, World.size_alloc]; omega) (fun e => by have := (own_in HO3.out e.symm).1; omega)).trans ((Below.heap_alloc _ _ _ (by rw [World.size_alloc]; omega)).trans (Below.heap_alloc _ _ _ (by omega)))
              have y6 : XB w6 w.heap.size 0 ⟨#[]⟩ none 0 0 := (hst _ (by omega)).trans y3
              have hg6n : g6 ≠ B + 1 := by
                rcases hat6 with h | h
                · have h' : gk' = g6 := Option.some.inj h; omega
                · rw [World.size_alloc, World.size_alloc] at h; omega
              have fs := FrE.set (B + 1) w6 2 (.slice (some ⟨g6, 0, none⟩) (nK + 1) c6)
              have x7 : XB (w6.setCell ⟨B + 1, 2, none⟩ (.slice (some ⟨g6, 0, none⟩) (nK + 1) c6)) (B + 1) 4 ⟨#[]⟩ (some ⟨g6, 0, none⟩) (nK + 1) c6 := cells_set x6 _
              have y7 := y6.keep fs (by omega)
              have own7 : (w6.setCell ⟨B + 1, 2, none⟩ (.slice (some ⟨g6, 0, none⟩) (nK + 1) c6)).ownsRow B 32 3 (.slice (some ⟨g6, 0, none⟩) (nK + 1) c6) (nK + 1) (xs ++ [.int .i64 op, .string st, .slice ka m c]) := row_stay hown6 (fun q hq => fs.block q (own_in hown6 hq).2 (by have hq' : g6 = q := Option.some.inj hq; omega))
              have F7 := F6.own (by omega) fs
              have hb7 : (w6.setCell ⟨B + 1, 2, none⟩ (.slice (some ⟨g6, 0, none⟩) (nK + 1) c6)).heap[b]? = w3.heap[b]? := (fs.block b (by have := F6.size; omega) (by omega)).trans (hst b (by omega))
              have S7 : ExS br s.data.toList o b s at_ d (gk - 1) (cnt + n) (nK + 1) (w6.setCell ⟨B + 1, 2, none⟩ (.slice (some ⟨g6, 0, none⟩) (nK + 1) c6)) := by
                cases r with
                | bad r =>
                  obtain ⟨hr0, h0, h1, i', at', d', E3⟩ := hp
                  exact .inr ⟨by omega, r, i', at', d', hr0, by omega, by omega, hoN, hb7.trans E3⟩
                | ok p j =>
                  obtain ⟨rfl, E3⟩ := hp
                  obtain ⟨g1, g2, g3, g4⟩ := hgi p j (by rw [HSL.out]; omega) rfl
                  have hl1 : (ps ++ [p]).length = ps.length + 1 := by rw [List.length_append]; rfl
                  have hsum : cnt + p.atoms = sumN (ps ++ [p]) := by rw [hcnt]; unfold sumN; rw [List.map_append, List.sum_append]; simp
                  exact .inl ⟨ps ++ [p], j, by omega, by omega, g2, by omega, hsum, by omega, by omega, hoN, hb7.trans E3⟩
              exact ⟨cnt + n, g6, nK + 1, c6, _, rfl, F7, x7, own7, hg6n, y7, S7⟩
          · have hB : isB s.data.toList i 124 = false := by unfold isB; rw [beq_eq_false_iff_ne]; exact c124
            rw [hB] at his
            have hoe : o = .ok (joinD 4 ps) i := by rw [hoN, branches_end c124]; rfl
            obtain ⟨a0, a1, a2, af, al⟩ := hx.cells
            obtain ⟨z0, z1, z2, zf, zl⟩ := hy.cells
            have H3 := hide (⟨hf, hy, hE, hoe, hcnt⟩ : _ ∧ _ ∧ _ ∧ _ ∧ _)
            clear hf hx hown hy hE hoe hcnt hB c124 hoN
            go_wp2_with fail
            refine his.mono ?_
            rintro e w3 ⟨rfl, hw⟩
            rw [hw]
            clear hw his
            go_wp2
            obtain ⟨hf, hy, hE, hoe, hcnt⟩ := H3.out
            exact dp_okD rfl rfl rfl rfl hy hE hf hgb (Nat.le_refl _) hoe (by rw [joinD_atoms]; exact hcnt)
        · have his := is_no b s i' r at' d' 124 wr hE (by omega)
          obtain ⟨a0, a1, a2, af, al⟩ := hx.cells
          obtain ⟨z0, z1, z2, zf, zl⟩ := hy.cells
          have H3 := hide (⟨hf, hy, hE, hoe⟩ : _ ∧ _ ∧ _ ∧ _)
          clear hf hx hown hy hE hoe
          go_wp2_with fail
          refine his.mono ?_
          rintro e w3 ⟨rfl, hw⟩
          rw [hw]
          clear hw his
          go_wp2
          obtain ⟨hf, hy, hE, hoe⟩ := H3.out
          exact dp_badD rfl rfl rfl rfl hy hE hf hgb (Nat.le_refl _) hoe hr0 hc0 hc1
    · have hB : isB s.data.toList j 124 = false := by unfold isB; rw [beq_eq_false_iff_ne]; exact c124
      rw [hB] at his
      have hoe : o = .ok p j := by
        rw [← ho, branches_end c124]
        rfl
      have H2 := hide (⟨F2, y2, E2, hoe⟩ : _ ∧ _ ∧ _ ∧ _)
      clear F2 y2 x2 E2 E1 f12 hoe ho hsl hgi af hB c124 hz2
      go_wp2_with fail
      refine his.mono ?_
      rintro e w3 ⟨rfl, hw⟩
      rw [hw]
      clear hw his
      go_wp2
      obtain ⟨F2, y2, E2, hoe⟩ := H2.out
      exact dp_okD rfl rfl rfl rfl y2 E2 F2 hgb (Nat.le_refl _) hoe rfl
theorem rexpr_any (b : Nat) (s : ByteArray) (hs : s.size ≤ 200) : ∀ (f d : Nat), d + f = 20 → DOK 12 b s (d : Int) 600000 (eexprD s.data.toList f)
  | 0, d, hd => by
    unfold eexprD
    have hg := goes_atom (l := s.data.toList) (f := 0) (ex := fun _ => .bad 5) (fun h => absurd rfl h)
    have hgp := goes_piece (l := s.data.toList) (f := 0) (ex := fun _ => .bad 5) (fun h => absurd rfl h)
    exact rexpr_step b s d _ hs (rbranch_any b s d _ hs (rpiece_any b s d 0 _ hs (ratom_any b s d 0 _ hs hd (fun h => absurd rfl h) (fun h => absurd rfl h)) hg) hgp) (goes_branch hgp)
  | f + 1, d, hd => by
    unfold eexprD
    have ge := goes_expr s.data.toList f
    have hg := goes_atom (l := s.data.toList) (f := f + 1) (ex := eexprD s.data.toList f) (fun _ => ge)
    have hgp := goes_piece (l := s.data.toList) (f := f + 1) (ex := eexprD s.data.toList f) (fun _ => ge)
    exact rexpr_step b s d _ hs (rbranch_any b s d _ hs (rpiece_any b s d (f + 1) _ hs (ratom_any b s d (f + 1) _ hs hd (fun _ => rexpr_any b s hs f (d + 1) (by omega)) (fun _ => ge)) hg) hgp) (goes_branch hgp)
end Go.Proofs.YtdlljlmgoiobpaaGreatDoor
