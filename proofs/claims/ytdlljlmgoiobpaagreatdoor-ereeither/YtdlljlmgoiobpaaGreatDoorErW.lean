/- The reader: a branch. -/
import Derived.Test.YtdlljlmgoiobpaaGreatDoorEU
namespace Go.Proofs.YtdlljlmgoiobpaaGreatDoor
open Go.RowKit Go.Maps
/-- What is kept while pieces are read. -/
def PsK (l : List UInt8) (k i : Nat) (ps : List PtD) : Prop := l.length ≤ i + k ∧ i ≤ l.length ∧ 1 ≤ ps.length ∧ ps.length ≤ i ∧ ∀ p ∈ ps, 0 ≤ p.atoms ∧ p.atoms ≤ 1000000
theorem PsK.on {l : List UInt8} {k i j : Nat} {ps : List PtD} {p : PtD} (h : PsK l k i ps) (hk : 1 ≤ k) (hij : i < j) (hj : j ≤ l.length) (hs : l.length ≤ 200) (h0 : 0 ≤ p.atoms) (h1 : p.atoms ≤ 1000 * ((j : Int) - i)) : PsK l (k - 1) j (ps ++ [p]) := by
  obtain ⟨a, b, c, d, e⟩ := h
  refine ⟨by omega, hj, by rw [List.length_append]; omega, by rw [List.length_append]; simp; omega, fun q hq => ?_⟩
  rcases List.mem_append.1 hq with hq | hq
  · exact e q hq
  · rw [List.mem_singleton.1 hq]; exact ⟨h0, by omega⟩
def onP (pc : Nat → Res PtD) (l : List UInt8) (k : Nat) (ps : List PtD) : Res PtD → Res (List PtD)
  | .bad e => .bad e
  | .ok p j => piecesD pc l k (ps ++ [p]) j
theorem pieces_step {pc : Nat → Res PtD} {l : List UInt8} {k i : Nat} {ps : List PtD} (h : moreB l i = true) (hk : 1 ≤ k) : piecesD pc l k ps i = onP pc l (k - 1) ps (pc i) := by
  obtain ⟨k', rfl⟩ : ∃ k', k = k' + 1 := ⟨k - 1, by omega⟩
  rw [Nat.add_sub_cancel]
  conv => lhs; unfold piecesD
  rw [if_pos h]
  cases pc i <;> rfl
theorem pieces_end {pc : Nat → Res PtD} {l : List UInt8} {k i : Nat} {ps : List PtD} (h : ¬ moreB l i = true) : piecesD pc l k ps i = .ok ps i := by
  cases k with
  | zero => rfl
  | succ k => unfold piecesD; rw [if_neg h]
theorem ne8 {c : UInt8} {n : Nat} (h : c ≠ UInt8.ofNat n) : ((c.toNat : Int) != (n : Int)) = true := by
  rw [bne_iff_ne]
  intro e
  apply h
  have : c.toNat = n := by omega
  rw [← this]
  simp
theorem eq8 {c : UInt8} {n : Nat} (hn : n < 256) (h : c = UInt8.ofNat n) : ((c.toNat : Int) != (n : Int)) = false := by
  rw [bne_eq_false_iff_eq, h]
  simp
  omega
set_option maxRecDepth 100000 in
set_option maxHeartbeats 2000000 in
theorem branch_any (b : Nat) (s : ByteArray) (d : Nat) (pc : Nat → Res PtD) (hb1 : 1 < b) (hs : s.size ≤ 200) (hpc : ReadsOK 40 b s d pc) (hgo : GoesE s.data.toList pc) : ReadsOK 29 b s d (branchD pc s.data.toList) := by
  intro w i h hi hM
  have hsl : s.data.toList.length = s.size := by simp
  have hb : b < w.heap.size := (Array.getElem?_eq_some_iff.1 h).1
  have hgb : w.heap.size ≠ b := by omega
  obtain ⟨W0, hW0⟩ : ∃ W0, w.alloc (.cells #[.int .i64 0, .string ⟨#[]⟩, .slice none 0 0, .int .i64 0] 42) = W0 := ⟨_, rfl⟩
  have h0 : RdB W0 b s i d := by rw [← hW0]; exact h.alloc _
  have f0 : FrE b w W0 := by rw [← hW0]; exact FrE.alloc _ _ _
  have p0 : PaB W0 w.heap.size 0 ⟨#[]⟩ none 0 0 0 := by rw [← hW0]; exact PaB.new w 0 ⟨#[]⟩ none 0 0 0
  obtain ⟨o, ho⟩ : ∃ o, branchD pc s.data.toList i = o := ⟨_, rfl⟩
  rw [ho]
  have hca := hpc W0 i h0 hi (hM.fr hb1 hb f0)
  obtain ⟨r, hr⟩ : ∃ r, pc i = r := ⟨_, rfl⟩
  unfold branchD at ho
  rw [hr] at ho hca
  have hgi := hgo i
  rw [hr] at hgi
  have HM := hide hM
  clear h hM hr
  cases r with
  | bad e =>
    have H0 := hide (⟨f0, ho⟩ : _ ∧ _)
    clear f0 p0 h0 ho hgi
    go_enter Tryz.func29, Tryz.ntmps29
    go_wp2_with fail
    refine hca.mono ?_
    rintro e w1 ⟨⟨p, rfl⟩, f1⟩
    refine ⟨rfl, ?_⟩
    rw [← H0.out.2]
    exact ⟨⟨_, rfl⟩, H0.out.1.trans f1⟩
  | ok p j =>
    obtain ⟨hij, hj, hp0, hp1⟩ := hgi p j (by rw [hsl]; exact hi) rfl
    simp only at ho
    have hK0 : PsK s.data.toList s.data.toList.length j [p] := ⟨by omega, hj, by simp, by simp; omega, fun q hq => by rw [List.mem_singleton.1 hq]; exact ⟨hp0, by omega⟩⟩
    have H0 := hide (⟨f0, p0, ho, hK0⟩ : _ ∧ _ ∧ _ ∧ _)
    clear f0 p0 h0 ho hgi hp0 hp1 hK0 hij hj
    go_enter Tryz.func29, Tryz.ntmps29
    go_wp2_with fail
    refine hca.mono ?_
    rintro e w1 ⟨⟨v, rfl, op, st, ka, m, c, ks, rfl, hpe, hst, hk⟩, h1, f1⟩
    have F1 := H0.out.1.trans f1
    have p1 := H0.out.2.1.keep f1 hgb
    have hg1 : w.heap.size < w1.heap.size := p1.cells.2.2.2.2.2
    obtain ⟨W2, hW2⟩ : ∃ W2, w1.alloc (.cells #[.int .i64 op, .string st, .slice ka m c, .int .i64 p.atoms] 42) = W2 := ⟨_, rfl⟩
    have f12 : FrE b w1 W2 := by rw [← hW2]; exact FrE.alloc _ _ _
    have ps2 : PsR b (w.heap.size + 1) W2 w1.heap.size 1 1 [p] := by rw [← hW2]; exact psr_new (by omega) hpe hst hk
    have h2 : RdB W2 b s j d := by rw [← hW2]; exact h1.alloc _
    have HA := hide (⟨F1.trans f12, p1.keep f12 hgb, ps2, h2⟩ : _ ∧ _ ∧ _ ∧ _)
    have HSL := hide hsl
    clear F1 p1 ps2 h1 f1 f12 h2 hpe hk hca hW0 hsl
    unfold partV
    go_wp2
    clear hW2
    go_loopg [3] s.data.toList.length (fun k v3 wr => ∃ (gp n c i : Nat) (ps : List PtD), v3 = .slice (some ⟨gp, 0, none⟩) n c ∧ PsR b (w.heap.size + 1) wr gp n c ps ∧ RdB wr b s i d ∧ FrE b w wr ∧ PaB wr w.heap.size 0 ⟨#[]⟩ none 0 0 0 ∧ PsK s.data.toList k i ps ∧ joinR 3 (piecesD pc s.data.toList k ps i) = o)
    case atStart => exact ⟨w1.heap.size, 1, 1, j, [p], rfl, HA.out.2.2.1, HA.out.2.2.2, HA.out.1, HA.out.2.1, H0.out.2.2.2, H0.out.2.2.1⟩
    case round =>
      obtain ⟨gp, n, c, i, ps, rfl, hps, hrd, hf, hp0, hK, hR⟩ := hrel
      obtain ⟨c0, c1, c2, cf⟩ := hrd.cells
      have hbw : b < wr.heap.size := Nat.lt_of_lt_of_le hb hf.size
      clear HA H0 c2 cf
      by_cases hmore : moreB s.data.toList i = true
      · have hlt : i < s.size := by
          rw [← HSL.out]
          unfold moreB at hmore
          cases hge : s.data.toList[i]? with
          | none => rw [hge] at hmore; cases hmore
          | some c => exact (List.getElem?_eq_some_iff.1 hge).1
        have hge : s.data.toList[i]? = some s[i] := by rw [List.getElem?_eq_getElem (by simpa using hlt)]; rfl
        have hmc := hmore
        unfold moreB at hmc
        rw [hge] at hmc
        simp only [Bool.and_eq_true, Bool.not_eq_true'] at hmc
        have hiI : (i : Int) < (s.size : Int) := by omega
        have h124 : ((s[i].toNat : Int) != 124) = true := ne8 (n := 124) (by rw [← beq_eq_false_iff_ne]; exact hmc.1)
        have h41 : ((s[i].toNat : Int) != 41) = true := ne8 (n := 41) (by rw [← beq_eq_false_iff_ne]; exact hmc.2)
        have hca := hpc wr.drew i hrd (by omega) (HM.out.fr hb1 hb hf.drew)
        have hk1 : 1 ≤ gk := by have := hK.1; rw [HSL.out] at this; omega
        obtain ⟨r, hr⟩ : ∃ r, pc i = r := ⟨_, rfl⟩
        have hgi := hgo i
        rw [hr] at hca hgi
        have hRe : joinR 3 (onP pc s.data.toList (gk - 1) ps r) = o := by rw [← hR, pieces_step hmore hk1, hr]
        have HB := hide (⟨hps, hf, hp0, hK, hRe⟩ : _ ∧ _ ∧ _ ∧ _ ∧ _)
        clear hps hrd hf hp0 hK hRe hR hmc hge hmore hr hpc hgo
        go_wp2_with fail
        go_region_held3 (fun w' => w'.cell? ⟨b, 0, none⟩ = some (.string s) ∧ w'.cell? ⟨b, 1, none⟩ = some (.int .i64 (i : Int))) (go_keep) (first | fail)
        go_wp2_with fail
        refine hca.mono ?_
        cases r with
        | bad e =>
          rintro e w4 ⟨⟨x, rfl⟩, f4⟩
          refine ⟨rfl, ?_⟩
          rw [← HB.out.2.2.2.2]
          exact ⟨⟨_, rfl⟩, HB.out.2.1.drew.trans f4⟩
        | ok p j =>
          obtain ⟨hij, hj, ha0, ha1⟩ := hgi p j (by rw [HSL.out]; omega) rfl
          rintro e w4 ⟨⟨v, rfl, op, st, ka, m, c2, ks, rfl, hpe, hst, hk⟩, h4, f4⟩
          obtain ⟨hps, hf, hp0, hK, hRe⟩ := HB.out
          have ps4 := hps.keep ((FrE.refl b wr).drew.trans f4) (by omega)
          have F4 := hf.drew.trans f4
          have p4 := PaB.keep (W := wr.drew) hp0 f4 hgb
          obtain ⟨⟨xs, own4, row4⟩, hn⟩ := ps4
          have hnb : n ≤ 200 := by have := hK.2.2.2.1; have := hK.2.1; rw [HSL.out] at this; omega
          have hsz4 : w.heap.size + 1 ≤ w4.heap.size := p4.cells.2.2.2.2.2
          obtain ⟨i0, hi0, z0, z1, z2⟩ := info_parts Tryz.info42
          have HO4 := hide own4
          have H4 := hide (⟨row4, hn, F4, p4, h4, hpe, hst, hk, hK.on hk1 hij hj (by rw [HSL.out]; exact hs) ha0 ha1, hRe⟩ : _ ∧ _ ∧ _ ∧ _ ∧ _ ∧ _ ∧ _ ∧ _ ∧ _ ∧ _)
          clear own4 row4 hn F4 p4 h4 hpe hst hk hps hf hp0 hK hRe f4 hca hgi c0 c1 hij hj ha0 ha1
          unfold partV
          go_wp2_with (at_builtin; refine wpList_append_lies _ rfl (.tmp 41) (.tmp 44) 91 rfl (w.heap.size + 1) 42 i0 _ 4 56 Tryz.underlying91' hi0 z0 z1 z2 rfl (by decide) (.slice (some ⟨gp, 0, none⟩) n c) n xs rfl (HO4.out.alloc _) ⟨w4.heap.size, 0, none⟩ 1 1 [.int .i64 op, .string st, .slice ka m c2, .int .i64 p.atoms] rfl rfl (news4 _ _ _ _ _ _) (by simp [Value.oneCell']) (by decide) (by unfold maxLen; omega) (by omega) (by rw [World.size_alloc]; omega) _ rfl ?_; intro g6 c6 w6 hown6 hg6 hat6 hlt6; have H6 := hide (⟨hown6, hg6⟩ : _ ∧ _); clear hown6 hg6 hat6 hlt6)
          go_roundg (gk - 1)
          case measure => omega
          case rel =>
            obtain ⟨row4, hn, F4, p4, h4, hpe, hst, hk, hK, hRe⟩ := H4.out
            obtain ⟨hown6, hg6⟩ := H6.out
            obtain ⟨ps6, f6⟩ := psr_app HO4.out row4 hn hpe hst hk hown6 hg6
            obtain ⟨hBg, _, _⟩ := own4_block HO4.out
            have h6 := h4.own f6 (by omega)
            have F6 := F4.own (by omega) f6
            have p6 := p4.keep f6 (by omega)
            exact ⟨g6, n + 1, c6, j, ps ++ [p], rfl, ps6, h6, F6, p6, hK, hRe⟩
      · have hRe : o = .ok (joinD 3 ps) i := by
          rw [← hR, pieces_end hmore]
          rfl
        have hcap := hps.cap
        have hjn := join_any b 3 gp c ps wr.drew ((hps.keep (FrE.refl b wr).drew (by omega)).ps (by omega)) hK.2.2.1 (by have := hK.2.2.2.1; have := hK.2.1; rw [HSL.out] at this; omega) hcap.1 hK.2.2.2.2 hbw
        rw [← hps.len] at hjn
        have HB := hide (⟨hrd, hf, hp0, hRe⟩ : _ ∧ _ ∧ _ ∧ _)
        clear hps hrd hf hp0 hK hRe hR hpc hgo
        have hcase : (¬ i < s.size) ∨ (∃ h : i < s.size, s[i] = 124) ∨ (∃ h : i < s.size, s[i] ≠ 124 ∧ s[i] = 41) := by
          by_cases hlt : i < s.size
          · right
            have hge : s.data.toList[i]? = some s[i] := by rw [List.getElem?_eq_getElem (by simpa using hlt)]; rfl
            unfold moreB at hmore
            rw [hge] at hmore
            simp only at hmore
            by_cases h1 : s[i] = 124
            · exact .inl ⟨hlt, h1⟩
            · refine .inr ⟨hlt, h1, ?_⟩
              by_cases h2 : s[i] = 41
              · exact h2
              · exact absurd (by rw [beq_eq_false_iff_ne.2 h1, beq_eq_false_iff_ne.2 h2]; rfl) hmore
          · exact .inl hlt
        clear hmore
        rcases hcase with hlt | ⟨hlt, h1⟩ | ⟨hlt, h1, h2⟩
        · have hnI : ¬ ((i : Int) < (s.size : Int)) := by omega
          have hdn : decide (i < s.size) = false := decide_eq_false hlt
          go_wp2_with fail
          go_region
          all_goals go_wp2_with fail
          all_goals
            refine hjn.mono ?_
            rintro e w5 ⟨⟨v, rfl, op', st', ka', m', c', ks', rfl, hpe, hst', hk⟩, f5⟩
            have p5 := PaB.keep (W := wr.drew) HB.out.2.2.1 (f5 b) hgb
            have h5 := rd_all (W := wr.drew) HB.out.1 f5
            have F5 := HB.out.2.1.drew.trans (f5 b)
            obtain ⟨a0, a1, a2, a3, af, al⟩ := p5.cells
            have H5 := hide (⟨p5, h5, F5, hpe, hk⟩ : _ ∧ _ ∧ _ ∧ _ ∧ _)
            clear p5 h5 F5 hpe hk f5 hjn c0 c1
            unfold partV
            go_wp2
            obtain ⟨p5, h5, F5, hpe, hk⟩ := H5.out
            exact pc_ret rfl rfl rfl p5 hpe hst' hk h5 F5 hgb (Nat.le_refl _) HB.out.2.2.2
        · have hiI : (i : Int) < (s.size : Int) := by omega
          have h124 : ((s[i].toNat : Int) != 124) = false := eq8 (n := 124) (by decide) h1
          clear h1
          go_wp2_with fail
          go_region
          all_goals go_wp2_with fail
          all_goals
            refine hjn.mono ?_
            rintro e w5 ⟨⟨v, rfl, op', st', ka', m', c', ks', rfl, hpe, hst', hk⟩, f5⟩
            have p5 := PaB.keep (W := wr.drew) HB.out.2.2.1 (f5 b) hgb
            have h5 := rd_all (W := wr.drew) HB.out.1 f5
            have F5 := HB.out.2.1.drew.trans (f5 b)
            obtain ⟨a0, a1, a2, a3, af, al⟩ := p5.cells
            have H5 := hide (⟨p5, h5, F5, hpe, hk⟩ : _ ∧ _ ∧ _ ∧ _ ∧ _)
            clear p5 h5 F5 hpe hk f5 hjn c0 c1
            unfold partV
            go_wp2
            obtain ⟨p5, h5, F5, hpe, hk⟩ := H5.out
            exact pc_ret rfl rfl rfl p5 hpe hst' hk h5 F5 hgb (Nat.le_refl _) HB.out.2.2.2
        · have hiI : (i : Int) < (s.size : Int) := by omega
          have h124 : ((s[i].toNat : Int) != 124) = true := ne8 (n := 124) h1
          have h41 : ((s[i].toNat : Int) != 41) = false := eq8 (n := 41) (by decide) h2
          clear h1 h2
          go_wp2_with fail
          go_region_held3 (fun w' => w'.cell? ⟨b, 0, none⟩ = some (.string s) ∧ w'.cell? ⟨b, 1, none⟩ = some (.int .i64 (i : Int))) (go_keep) (first | fail)
          all_goals go_wp2_with fail
          all_goals
            refine hjn.mono ?_
            rintro e w5 ⟨⟨v, rfl, op', st', ka', m', c', ks', rfl, hpe, hst', hk⟩, f5⟩
            have p5 := PaB.keep (W := wr.drew) HB.out.2.2.1 (f5 b) hgb
            have h5 := rd_all (W := wr.drew) HB.out.1 f5
            have F5 := HB.out.2.1.drew.trans (f5 b)
            obtain ⟨a0, a1, a2, a3, af, al⟩ := p5.cells
            have H5 := hide (⟨p5, h5, F5, hpe, hk⟩ : _ ∧ _ ∧ _ ∧ _ ∧ _)
            clear p5 h5 F5 hpe hk f5 hjn c0 c1
            unfold partV
            go_wp2
            obtain ⟨p5, h5, F5, hpe, hk⟩ := H5.out
            exact pc_ret rfl rfl rfl p5 hpe hst' hk h5 F5 hgb (Nat.le_refl _) HB.out.2.2.2
end Go.Proofs.YtdlljlmgoiobpaaGreatDoor
