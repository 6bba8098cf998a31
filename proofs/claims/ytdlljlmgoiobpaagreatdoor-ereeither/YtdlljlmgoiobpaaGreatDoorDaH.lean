/- The document's reader: a branch. -/
import Derived.Test.YtdlljlmgoiobpaaGreatDoorDaG
import Derived.Test.YtdlljlmgoiobpaaGreatDoorErW
namespace Go.Proofs.YtdlljlmgoiobpaaGreatDoor
open Go.RowKit Go.Maps
def brNext (pc : Nat → Res PtD) (l : List UInt8) (k : Nat) (ps : List PtD) (i : Nat) : Res PtD := joinR 3 (onP pc l k ps (pc i))
theorem branch_start (pc : Nat → Res PtD) (l : List UInt8) (i : Nat) : branchD pc l i = brNext pc l l.length [] i := by
  unfold branchD brNext
  cases pc i <;> rfl
def sumN (ps : List PtD) : Int := (ps.map (·.atoms)).sum
/-- Where a branch is read. -/
def BrS (pc : Nat → Res PtD) (l : List UInt8) (o : Res PtD) (b : Nat) (s : ByteArray) (at_ d : Int) (mm : Nat) (cnt : Int) (more : Bool) (nK : Nat) (W : World) : Prop :=
  (more = true ∧ ∃ (ps : List PtD) (k i : Nat), mm = k + 1 ∧ nK = ps.length ∧ ps.length ≤ i ∧ i ≤ l.length ∧ l.length ≤ i + k ∧ cnt = sumN ps ∧ 0 ≤ cnt ∧ cnt ≤ 1000 * (i : Int) ∧ o = brNext pc l k ps i ∧ EB W b s (i : Int) 0 at_ d) ∨
  (more = false ∧ nK ≤ 201 ∧ ∃ (ps : List PtD) (j : Nat), cnt = sumN ps ∧ o = .ok (joinD 3 ps) j ∧ EB W b s (j : Int) 0 at_ d) ∨
  (more = false ∧ nK ≤ 201 ∧ ∃ (r : Nat) (i' at' d' : Int), r ≠ 0 ∧ 0 ≤ cnt ∧ cnt ≤ 300000 ∧ o = .bad r ∧ EB W b s i' (r : Int) at' d')
set_option maxRecDepth 100000 in
set_option maxHeartbeats 8000000 in
theorem rbranch_any (b : Nat) (s : ByteArray) (d : Int) (pc : Nat → Res PtD) (hs : s.size ≤ 200) (hpc : DOK 32 b s d 0 pc) (hgo : GoesE s.data.toList pc) :
    DOK 21 b s d 300000 (branchD pc s.data.toList) := by
  intro w i at_ h hi
  have hsl : s.data.toList.length = s.size := by simp
  have hb : b < w.heap.size := (Array.getElem?_eq_some_iff.1 h).1
  have hgb : w.heap.size ≠ b := by omega
  have hgb1 : w.heap.size + 1 ≠ b := by omega
  obtain ⟨o, ho⟩ : ∃ o, branchD pc s.data.toList i = o := ⟨_, rfl⟩
  rw [ho]
  rw [branch_start] at ho
  obtain ⟨W0, hW0⟩ : ∃ W0, (w.alloc (.cells #[.int .i64 0, .string ⟨#[]⟩, .slice none 0 0] 32)).alloc (.cells #[.int .i64 3, .string ⟨#[]⟩, .slice none 0 0] 32) = W0 := ⟨_, rfl⟩
  have E0 : EB W0 b s (i : Int) 0 at_ d := by rw [← hW0]; exact (h.alloc _).alloc _
  have y0 : XB W0 w.heap.size 0 ⟨#[]⟩ none 0 0 := by rw [← hW0]; exact (XB.new w 0 ⟨#[]⟩ none 0 0).alloc _
  have x0 : XB W0 (w.heap.size + 1) 3 ⟨#[]⟩ none 0 0 := by
    rw [← hW0]
    have := XB.new (w.alloc (.cells #[.int .i64 0, .string ⟨#[]⟩, .slice none 0 0] 32)) 3 ⟨#[]⟩ none 0 0
    rw [World.size_alloc] at this
    exact this
  have f0 : FrE b w W0 := by rw [← hW0]; exact (FrE.alloc _ _ _).trans (FrE.alloc _ _ _)
  have s0 : BrS pc s.data.toList o b s at_ d (s.data.toList.length + 1) 0 true 0 W0 := .inl ⟨rfl, [], s.data.toList.length, i, rfl, rfl, Nat.zero_le _, by omega, by omega, rfl, by decide, by omega, ho.symm, E0⟩
  have H0 := hide (⟨f0, x0, y0, s0, hW0⟩ : _ ∧ _ ∧ _ ∧ _ ∧ _)
  have HSL := hide hsl
  clear h E0 y0 x0 f0 s0 ho hsl hW0
  go_enter Tryz.func21, Tryz.ntmps21
  go_wp2
  rw [H0.out.2.2.2.2]
  go_loopg [5, 6] (s.data.toList.length + 1) (fun mm v5 v6 wr => ∃ (cnt : Int) (more : Bool) (kK : Option Addr) (nK cK : Nat) (xs : List Value), v5 = .int .i64 cnt ∧ v6 = .bool more ∧ FrE b w wr ∧ XB wr (w.heap.size + 1) 3 ⟨#[]⟩ kK nK cK ∧ wr.ownsRow (w.heap.size + 2) 32 3 (.slice kK nK cK) nK xs ∧ XB wr w.heap.size 0 ⟨#[]⟩ none 0 0 ∧ BrS pc s.data.toList o b s at_ d mm cnt more nK wr)
  case atStart => exact ⟨0, true, none, 0, 0, [], rfl, rfl, H0.out.1, H0.out.2.1, ⟨rfl, .inl ⟨rfl, rfl⟩⟩, H0.out.2.2.1, H0.out.2.2.2.1⟩
  case round =>
    clear H0
    obtain ⟨cnt, more, kK, nK, cK, xs, rfl, rfl, hf, hx, hown, hy, hS⟩ := hrel
    rcases hS with ⟨rfl, ps, k, i, hmm, hnK, hpi, hil, hlk, hcnt, hc0, hc1, hoN, hE⟩ | ⟨rfl, hn201, ps, j, hcnt, hoe, hE⟩ | ⟨rfl, hn201, r, i', at', d', hr0, hc0, hc1, hoe, hE⟩
    · have his : i ≤ s.size := by rw [← HSL.out]; exact hil
      have hca := hpc wr i at_ hE his
      have hgi := hgo i
      obtain ⟨r, hr⟩ : ∃ r, pc i = r := ⟨_, rfl⟩
      rw [hr] at hca hgi
      have hoN' : o = joinR 3 (onP pc s.data.toList k ps r) := by rw [hoN]; unfold brNext; rw [hr]
      obtain ⟨e0, e1, e2, e3, e4, ef, el⟩ := hE.cells
      have H3 := hide (⟨hf, hx, hown, hy, hmm, hnK, hpi, hlk, hcnt, hc0, hc1, hoN'⟩ : _ ∧ _ ∧ _ ∧ _ ∧ _ ∧ _ ∧ _ ∧ _ ∧ _ ∧ _ ∧ _ ∧ _)
      clear hf hx hown hy hE hmm hnK hpi hil hlk hcnt hc0 hc1 hoN hoN' hr e3 e4
      go_wp2_with fail
      refine hca.mono ?_
      rintro e w3 ⟨f3, op, st, ka, m, c, n, rfl, hp⟩
      obtain ⟨hf, hx, hown, hy, hmm, hnK, hpi, hlk, hcnt, hc0, hc1, hoN⟩ := H3.out
      have x3 := hx.keep f3 hgb1
      have y3 := hy.keep f3 hgb
      have F3 := hf.trans f3
      have own3 : w3.ownsRow (w.heap.size + 2) 32 3 (.slice kK nK cK) nK xs := row_stay hown (fun q hq => f3.block q (own_in hown hq).2 (by have := (own_in hown hq).1; omega))
      have hn200 : nK ≤ 200 := by omega
      have hsz3 : w.heap.size + 2 ≤ w3.heap.size := by have := x3.cells.2.2.2.2; omega
      have hnb : 0 ≤ n ∧ n ≤ 200000 := by
        cases r with
        | bad r => obtain ⟨_, h0, h1, _⟩ := hp; omega
        | ok p j =>
          obtain ⟨rfl, _⟩ := hp
          obtain ⟨g1, g2, g3, g4⟩ := hgi p j (by rw [HSL.out]; exact his) rfl
          have g2' : j ≤ s.size := by rw [← HSL.out]; exact g2
          exact ⟨g3, by omega⟩
      have hwc : IntKind.i64.wrap (cnt + n) = cnt + n := by rw [IntKind.wrap_i64]; omega
      obtain ⟨i0, hi0, z0, z1, z2⟩ := info_parts Tryz.info32
      obtain ⟨a0, a1, a2, af, al⟩ := x3.cells
      have HO3 := hide own3
      have HX3 := hide x3
      have H4 := hide (⟨y3, F3, hmm, hnK, hpi, hlk, hcnt, hc0, hc1, hoN, hp, hnb⟩ : _ ∧ _ ∧ _ ∧ _ ∧ _ ∧ _ ∧ _ ∧ _ ∧ _ ∧ _ ∧ _ ∧ _)
      clear hf hx hown hy hmm hnK hpi hlk hcnt hc0 hc1 hoN x3 y3 F3 own3 f3 hp e0 e1 e2 ef el hca H3 hnb
      unfold xV
      go_wp2_with (at_builtin; refine wpList_append_lies _ rfl (.tmp 24) (.tmp 26) 30 rfl (w.heap.size + 2) 32 i0 _ 3 48 Tryz.underlying30' hi0 z0 z1 z2 rfl (by decide) (.slice kK nK cK) nK xs rfl ((HO3.out.alloc _).alloc _) ⟨w3.heap.size + 1, 0, none⟩ 1 1 [.int .i64 op, .string st, .slice ka m c] rfl rfl (news3 _ _ (by rw [World.size_alloc]) _ _ _ _) (by simp [Value.oneCell']) (by decide) (by unfold maxLen; omega) (by omega) (by rw [World.size_alloc, World.size_alloc]; omega) _ rfl ?_; intro g6 c6 w6 hown6 hg6 hat6 hlt6; have x6 : XB w6 (w.heap.size + 1) 3 ⟨#[]⟩ kK nK cK := (hg6.block _ (by rw [World.size_alloc, World.size_alloc]; omega) (fun e => by have := (own_in HO3.out e.symm).1; omega)).trans ((Below.heap_alloc _ _ _ (by rw [World.size_alloc]; omega)).trans ((Below.heap_alloc _ _ _ (by omega)).trans HX3.out)); obtain ⟨p0, p1, p2, pf, pl⟩ := x6.cells; have H6 := hide (⟨hown6, hg6, x6⟩ : _ ∧ _ ∧ _); clear hown6 hg6 hat6 hlt6 x6)
      obtain ⟨hown6, hg6, x6⟩ := H6.out
      obtain ⟨y3, F3, hmm, hnK, hpi, hlk, hcnt, hc0, hc1, hoN, hp, hnb⟩ := H4.out
      have F6 := fr_grown2 F3 hg6 HO3.out (by omega)
      have hst : ∀ q, q < w.heap.size + 2 → w6.heap[q]? = w3.heap[q]? := fun q hq =>
        (hg6.block q (by rw [World.size_alloc, World.size_alloc]; omega) (fun e => by have := (own_in HO3.out e.symm).1; omega)).trans ((Below.heap_alloc _ _ _ (by rw [World.size_alloc]; omega)).trans (Below.heap_alloc _ _ _ (by omega)))
      have y6 : XB w6 w.heap.size 0 ⟨#[]⟩ none 0 0 := (hst _ (by omega)).trans y3
      obtain ⟨W7, hW7⟩ : ∃ W7, w6.setCell ⟨w.heap.size + 1, 2, none⟩ (.slice (some ⟨g6, 0, none⟩) (nK + 1) c6) = W7 := ⟨_, rfl⟩
      have fs : FrE (w.heap.size + 1) w6 W7 := by rw [← hW7]; exact FrE.set _ _ _ _
      have x7 : XB W7 (w.heap.size + 1) 3 ⟨#[]⟩ (some ⟨g6, 0, none⟩) (nK + 1) c6 := by rw [← hW7]; exact cells_set x6 _
      have y7 := y6.keep fs (by omega)
      have own7 : W7.ownsRow (w.heap.size + 2) 32 3 (.slice (some ⟨g6, 0, none⟩) (nK + 1) c6) (nK + 1) (xs ++ [.int .i64 op, .string st, .slice ka m c]) := row_stay hown6 (fun q hq => fs.block q (own_in hown6 hq).2 (by have := (own_in hown6 hq).1; omega))
      have F7 := F6.own (by omega) fs
      have hb7 : W7.heap[b]? = w3.heap[b]? := (fs.block b (by have := F6.size; omega) (by omega)).trans (hst b (by omega))
      rw [hW7]
      clear hown6 hg6 x6 y3 F3 F6 hst y6 fs hW7 H6 H4 HX3 HO3 a0 a1 a2 af al p0 p1 p2 pf pl hwc
      cases r with
      | bad r =>
        obtain ⟨hr0, h0, h1, i', at', d', E3⟩ := hp
        have E7 : EB W7 b s i' (r : Int) at' d' := hb7.trans E3
        obtain ⟨e0, e1, e2, e3, e4, ef, el⟩ := E7.cells
        have hrb : ((r : Int) == 0) = false := by rw [beq_eq_false_iff_ne]; omega
        have hoe : o = .bad r := hoN
        have hnz : n ≤ 0 := h1
        have H7 := hide (⟨F7, x7, own7, y7, E7, hmm, hnK, hcnt, hc0, hc1, hoe, hnb, hnz⟩ : _ ∧ _ ∧ _ ∧ _ ∧ _ ∧ _ ∧ _ ∧ _ ∧ _ ∧ _ ∧ _ ∧ _ ∧ _)
        clear F7 x7 own7 y7 E7 hmm hnK hcnt hc0 hc1 hoe hoN E3 hb7 hgi hpi hlk e3 e4 h0 h1 hnb hnz
        go_region
        all_goals go_wp2
        all_goals go_roundg 0
        case measure => have := H7.out.2.2.2.2.2.1; omega
        case rel =>
          obtain ⟨F7, x7, own7, y7, E7, hmm, hnK, hcnt, hc0, hc1, hoe, hnb, hnz⟩ := H7.out
          have S7 : BrS pc s.data.toList o b s at_ d 0 (cnt + n) false (nK + 1) W7.drew := .inr (.inr ⟨rfl, by omega, r, i', at', d', hr0, by omega, by omega, hoe, E7.drew⟩)
          exact ⟨cnt + n, false, some ⟨g6, 0, none⟩, nK + 1, c6, _, rfl, rfl, F7.drew, XB.drew x7, own7, XB.drew y7, S7⟩
      | ok p j =>
        obtain ⟨rfl, E3⟩ := hp
        obtain ⟨hij, hjl, hp0, hp1⟩ := hgi p j (by rw [HSL.out]; exact his) rfl
        have E7 : EB W7 b s (j : Int) 0 at_ d := hb7.trans E3
        obtain ⟨e0, e1, e2, e3, e4, ef, el⟩ := E7.cells
        have hjs : j ≤ s.size := by rw [← HSL.out]; exact hjl
        have hsum : cnt + p.atoms = sumN (ps ++ [p]) := by rw [hcnt]; unfold sumN; rw [List.map_append, List.sum_append]; simp
        by_cases hmore : moreB s.data.toList j = true
        · have hlt : j < s.size := by
            rw [← HSL.out]
            unfold moreB at hmore
            cases hge : s.data.toList[j]? with
            | none => rw [hge] at hmore; cases hmore
            | some c => exact (List.getElem?_eq_some_iff.1 hge).1
          have hge : s.data.toList[j]? = some s[j] := by rw [List.getElem?_eq_getElem (by simpa using hlt)]; rfl
          have hmc := hmore
          unfold moreB at hmc
          rw [hge] at hmc
          simp only [Bool.and_eq_true, Bool.not_eq_true'] at hmc
          have hjI : (j : Int) < (s.size : Int) := by omega
          have h124 : ((s[j].toNat : Int) != 124) = true := ne8 (n := 124) (by rw [← beq_eq_false_iff_ne]; exact hmc.1)
          have h41 : ((s[j].toNat : Int) != 41) = true := ne8 (n := 41) (by rw [← beq_eq_false_iff_ne]; exact hmc.2)
          have hk1 : 1 ≤ k := by rw [HSL.out] at hlk; omega
          have hoe : o = brNext pc s.data.toList (k - 1) (ps ++ [p]) j := by
            rw [hoN]
            show joinR 3 (piecesD pc s.data.toList k (ps ++ [p]) j) = _
            rw [pieces_step hmore hk1]
            rfl
          have H7 := hide (⟨F7, x7, own7, y7, E7, hmm, hnK, hsum, hc0, hc1, hoe, hnb, hpi, hlk, hij, hjl, hp0, hp1⟩ : _ ∧ _ ∧ _ ∧ _ ∧ _ ∧ _ ∧ _ ∧ _ ∧ _ ∧ _ ∧ _ ∧ _ ∧ _ ∧ _ ∧ _ ∧ _ ∧ _ ∧ _)
          clear F7 x7 own7 y7 E7 hmm hnK hcnt hc0 hc1 hoe hoN E3 hb7 hgi hpi hlk e3 e4 hnb hsum hij hjl hp0 hp1 hmc hge hmore
          go_region_held3 (fun w' => w'.cell? ⟨b, 0, none⟩ = some (.string s) ∧ w'.cell? ⟨b, 1, none⟩ = some (.int .i64 (j : Int)) ∧ w'.cell? ⟨b, 2, none⟩ = some (.int .i64 0)) (go_keep) (first | fail)
          go_wp2
          go_roundg k
          case measure => have := H7.out.2.2.2.2.2.1; omega
          case rel =>
            obtain ⟨F7, x7, own7, y7, E7, hmm, hnK, hsum, hc0, hc1, hoe, hnb, hpi, hlk, hij, hjl, hp0, hp1⟩ := H7.out
            have hl1 : (ps ++ [p]).length = ps.length + 1 := by rw [List.length_append]; rfl
            have S7 : BrS pc s.data.toList o b s at_ d k (cnt + p.atoms) true (nK + 1) W7.drew := .inl ⟨rfl, ps ++ [p], k - 1, j, by omega, by omega, by omega, hjl, by omega, hsum, by omega, by omega, hoe, E7.drew⟩
            exact ⟨cnt + p.atoms, true, some ⟨g6, 0, none⟩, nK + 1, c6, _, rfl, rfl, F7.drew, XB.drew x7, own7, XB.drew y7, S7⟩
        · have hoe : o = .ok (joinD 3 (ps ++ [p])) j := by
            rw [hoN]
            show joinR 3 (piecesD pc s.data.toList k (ps ++ [p]) j) = _
            rw [pieces_end hmore]
            rfl
          have hcase : (¬ j < s.size) ∨ (∃ h : j < s.size, s[j] = 124) ∨ (∃ h : j < s.size, s[j] ≠ 124 ∧ s[j] = 41) := by
            by_cases hlt : j < s.size
            · right
              have hge : s.data.toList[j]? = some s[j] := by rw [List.getElem?_eq_getElem (by simpa using hlt)]; rfl
              unfold moreB at hmore
              rw [hge] at hmore
              simp only at hmore
              by_cases h1 : s[j] = 124
              · exact .inl ⟨hlt, h1⟩
              · refine .inr ⟨hlt, h1, ?_⟩
                by_cases h2 : s[j] = 41
                · exact h2
                · exact absurd (by rw [beq_eq_false_iff_ne.2 h1, beq_eq_false_iff_ne.2 h2]; rfl) hmore
            · exact .inl hlt
          have S7 : BrS pc s.data.toList o b s at_ d 0 (cnt + p.atoms) false (nK + 1) W7.drew := .inr (.inl ⟨rfl, by omega, ps ++ [p], j, hsum, hoe, E7.drew⟩)
          have H7 := hide (⟨F7, x7, own7, y7, S7, hmm⟩ : _ ∧ _ ∧ _ ∧ _ ∧ _ ∧ _)
          clear F7 x7 own7 y7 E7 hmm hnK hcnt hc0 hc1 hoe hoN E3 hb7 hgi hpi hlk e3 e4 hnb hsum hij hjl hp0 hp1 hmore S7
          rcases hcase with hlt | ⟨hlt, h1⟩ | ⟨hlt, h1, h2⟩
          · have hnI : ¬ ((j : Int) < (s.size : Int)) := by omega
            have hdn : decide (j < s.size) = false := decide_eq_false hlt
            go_region
            all_goals go_wp2
            all_goals go_roundg 0
            case measure => have := H7.out.2.2.2.2.2; omega
            case rel => exact ⟨cnt + p.atoms, false, some ⟨g6, 0, none⟩, nK + 1, c6, _, rfl, rfl, H7.out.1.drew, XB.drew H7.out.2.1, H7.out.2.2.1, XB.drew H7.out.2.2.2.1, H7.out.2.2.2.2.1⟩
          · have hjI : (j : Int) < (s.size : Int) := by omega
            have h124 : ((s[j].toNat : Int) != 124) = false := eq8 (n := 124) (by decide) h1
            clear h1
            go_region
            all_goals go_wp2
            all_goals go_roundg 0
            case measure => have := H7.out.2.2.2.2.2; omega
            case rel => exact ⟨cnt + p.atoms, false, some ⟨g6, 0, none⟩, nK + 1, c6, _, rfl, rfl, H7.out.1.drew, XB.drew H7.out.2.1, H7.out.2.2.1, XB.drew H7.out.2.2.2.1, H7.out.2.2.2.2.1⟩
          · have hjI : (j : Int) < (s.size : Int) := by omega
            have h124 : ((s[j].toNat : Int) != 124) = true := ne8 (n := 124) h1
            have h41 : ((s[j].toNat : Int) != 41) = false := eq8 (n := 41) (by decide) h2
            clear h1 h2
            go_region_held3 (fun w' => w'.cell? ⟨b, 0, none⟩ = some (.string s) ∧ w'.cell? ⟨b, 1, none⟩ = some (.int .i64 (j : Int)) ∧ w'.cell? ⟨b, 2, none⟩ = some (.int .i64 0)) (go_keep) (first | fail)
            go_wp2
            go_roundg 0
            case measure => have := H7.out.2.2.2.2.2; omega
            case rel => exact ⟨cnt + p.atoms, false, some ⟨g6, 0, none⟩, nK + 1, c6, _, rfl, rfl, H7.out.1.drew, XB.drew H7.out.2.1, H7.out.2.2.1, XB.drew H7.out.2.2.2.1, H7.out.2.2.2.2.1⟩
    · obtain ⟨a0, a1, a2, af, al⟩ := hx.cells
      obtain ⟨z0, z1, z2, zf, zl⟩ := hy.cells
      have H3 := hide (⟨hf, hy, hE, hoe, hcnt⟩ : _ ∧ _ ∧ _ ∧ _ ∧ _)
      clear hf hx hown hy hE hoe hcnt
      go_wp2
      obtain ⟨hf, hy, hE, hoe, hcnt⟩ := H3.out
      exact dp_ok rfl rfl rfl rfl hy hE hf hgb (Nat.le_refl _) hoe (by rw [joinD_atoms]; exact hcnt)
    · obtain ⟨a0, a1, a2, af, al⟩ := hx.cells
      obtain ⟨z0, z1, z2, zf, zl⟩ := hy.cells
      have H3 := hide (⟨hf, hy, hE, hoe⟩ : _ ∧ _ ∧ _ ∧ _)
      clear hf hx hown hy hE hoe
      go_wp2
      obtain ⟨hf, hy, hE, hoe⟩ := H3.out
      exact dp_bad rfl rfl rfl rfl hy hE hf hgb (Nat.le_refl _) hoe hr0 hc0 hc1
end Go.Proofs.YtdlljlmgoiobpaaGreatDoor
