/- Merged: ErX, ErY, ErZ. -/
import Derived.Test.YtdlljlmgoiobpaaGreatDoorErW
import Derived.Recover
/- The reader: an expression. -/
namespace Go.Proofs.YtdlljlmgoiobpaaGreatDoor
open Go.RowKit Go.Maps
def onB (br : Nat → Res PtD) (l : List UInt8) (k : Nat) (ps : List PtD) : Res PtD → Res (List PtD)
  | .bad e => .bad e
  | .ok p j => branchesD br l k (ps ++ [p]) j
theorem branches_step {br : Nat → Res PtD} {l : List UInt8} {k i : Nat} {ps : List PtD} (h : l[i]? = some 124) (hk : 1 ≤ k) : branchesD br l k ps i = onB br l (k - 1) ps (br (i + 1)) := by
  obtain ⟨k', rfl⟩ : ∃ k', k = k' + 1 := ⟨k - 1, by omega⟩
  rw [Nat.add_sub_cancel]
  conv => lhs; unfold branchesD
  rw [if_pos h]
  cases br (i + 1) <;> rfl
theorem branches_end {br : Nat → Res PtD} {l : List UInt8} {k i : Nat} {ps : List PtD} (h : ¬ l[i]? = some 124) : branchesD br l k ps i = .ok ps i := by
  cases k with
  | zero => rfl
  | succ k => unfold branchesD; rw [if_neg h]
set_option maxRecDepth 100000 in
set_option maxHeartbeats 2000000 in
theorem expr_step (b : Nat) (s : ByteArray) (d : Nat) (br : Nat → Res PtD) (hb1 : 1 < b) (hs : s.size ≤ 200) (hpc : ReadsOK 29 b s d br) (hgo : GoesE s.data.toList br) : ReadsOK 20 b s d (exprOf br s.data.toList) := by
  intro w i h hi hM
  have hsl : s.data.toList.length = s.size := by simp
  have hb : b < w.heap.size := (Array.getElem?_eq_some_iff.1 h).1
  have hgb : w.heap.size ≠ b := by omega
  obtain ⟨W0, hW0⟩ : ∃ W0, w.alloc (.cells #[.int .i64 0, .string ⟨#[]⟩, .slice none 0 0, .int .i64 0] 42) = W0 := ⟨_, rfl⟩
  have h0 : RdB W0 b s i d := by rw [← hW0]; exact h.alloc _
  have f0 : FrE b w W0 := by rw [← hW0]; exact FrE.alloc _ _ _
  have p0 : PaB W0 w.heap.size 0 ⟨#[]⟩ none 0 0 0 := by rw [← hW0]; exact PaB.new w 0 ⟨#[]⟩ none 0 0 0
  obtain ⟨o, ho⟩ : ∃ o, exprOf br s.data.toList i = o := ⟨_, rfl⟩
  rw [ho]
  have hca := hpc W0 i h0 hi (hM.fr hb1 hb f0)
  obtain ⟨r, hr⟩ : ∃ r, br i = r := ⟨_, rfl⟩
  unfold exprOf at ho
  rw [hr] at ho hca
  have hgi := hgo i
  rw [hr] at hgi
  have HM := hide hM
  clear h hM hr
  cases r with
  | bad e =>
    have H0 := hide (⟨f0, ho⟩ : _ ∧ _)
    clear f0 p0 h0 ho hgi
    go_enter Tryz.func20, Tryz.ntmps20
    go_wp2_with fail
    refine hca.mono ?_
    rintro e w1 ⟨⟨p, rfl⟩, f1⟩
    refine ⟨rfl, ?_⟩
    rw [← H0.out.2]
    exact ⟨⟨_, rfl⟩, H0.out.1.trans f1⟩
  | ok p j =>
    obtain ⟨hij, hj, hp0, hp1⟩ := hgi p j (by rw [hsl]; exact hi) rfl
    simp only at ho
    have hK0 : PsK s.data.toList s.data.toList.length j [p] := ⟨by omega, hj, by simp, by simp; omega, fun q hq => by rw [List.mem_singleton.1 hq]; exact ⟨hp0, by omega⟩⟩
    have H0 := hide (⟨f0, p0, ho, hK0⟩ : _ ∧ _ ∧ _ ∧ _)
    clear f0 p0 h0 ho hgi hp0 hp1 hK0 hij hj
    go_enter Tryz.func20, Tryz.ntmps20
    go_wp2_with fail
    refine hca.mono ?_
    rintro e w1 ⟨⟨v, rfl, op, st, ka, m, c, ks, rfl, hpe, hst, hk⟩, h1, f1⟩
    have F1 := H0.out.1.trans f1
    have p1 := H0.out.2.1.keep f1 hgb
    have hg1 : w.heap.size < w1.heap.size := p1.cells.2.2.2.2.2
    obtain ⟨W2, hW2⟩ : ∃ W2, w1.alloc (.cells #[.int .i64 op, .string st, .slice ka m c, .int .i64 p.atoms] 42) = W2 := ⟨_, rfl⟩
    have f12 : FrE b w1 W2 := by rw [← hW2]; exact FrE.alloc _ _ _
    have ps2 : PsR b (w.heap.size + 1) W2 w1.heap.size 1 1 [p] := by rw [← hW2]; exact psr_new (by omega) hpe hst hk
    have h2 : RdB W2 b s j d := by rw [← hW2]; exact h1.alloc _
    have HA := hide (⟨F1.trans f12, p1.keep f12 hgb, ps2, h2⟩ : _ ∧ _ ∧ _ ∧ _)
    have HSL := hide hsl
    clear F1 p1 ps2 h1 f1 f12 h2 hpe hk hca hW0 hsl
    unfold partV
    go_wp2
    clear hW2
    go_loopg [3] s.data.toList.length (fun k v3 wr => ∃ (gp n c i : Nat) (ps : List PtD), v3 = .slice (some ⟨gp, 0, none⟩) n c ∧ PsR b (w.heap.size + 1) wr gp n c ps ∧ RdB wr b s i d ∧ FrE b w wr ∧ PaB wr w.heap.size 0 ⟨#[]⟩ none 0 0 0 ∧ PsK s.data.toList k i ps ∧ joinR 4 (branchesD br s.data.toList k ps i) = o)
    case atStart => exact ⟨w1.heap.size, 1, 1, j, [p], rfl, HA.out.2.2.1, HA.out.2.2.2, HA.out.1, HA.out.2.1, H0.out.2.2.2, H0.out.2.2.1⟩
    case round =>
      obtain ⟨gp, n, c, i, ps, rfl, hps, hrd, hf, hp0, hK, hR⟩ := hrel
      have hbw : b < wr.heap.size := Nat.lt_of_lt_of_le hb hf.size
      have his : i ≤ s.size := by have := hK.2.1; rw [HSL.out] at this; exact this
      have htk := take_any b s i d 124 wr hrd his hs
      clear HA H0
      by_cases hmore : s.data.toList[i]? = some 124
      · have hlt : i < s.size := by
          rw [← HSL.out]
          exact (List.getElem?_eq_some_iff.1 hmore).1
        obtain ⟨e2, e3⟩ := take_yes hmore i
        rw [e2, e3] at htk
        have hk1 : 1 ≤ gk := by have := hK.1; rw [HSL.out] at this; omega
        have HB := hide (⟨hps, hf, hp0, hK, hR⟩ : _ ∧ _ ∧ _ ∧ _ ∧ _)
        have HMR := hide hmore
        clear hps hrd hf hp0 hK hR hmore e2 e3
        go_wp2_with fail
        refine htk.mono ?_
        rintro e w3 ⟨rfl, h3, f3⟩
        obtain ⟨hps, hf, hp0, hK, hR⟩ := HB.out
        have F3 := hf.trans f3
        have ps3 := hps.keep f3 (by omega)
        have p3 := hp0.keep f3 hgb
        have hca := hpc w3 (i + 1) h3 (by omega) (HM.out.fr hb1 hb F3)
        obtain ⟨r, hr⟩ : ∃ r, br (i + 1) = r := ⟨_, rfl⟩
        have hgi := hgo (i + 1)
        rw [hr] at hca hgi
        have hRe : joinR 4 (onB br s.data.toList (gk - 1) ps r) = o := by rw [← hR, branches_step HMR.out hk1, hr]
        have HB := hide (⟨ps3, F3, p3, hK, hRe⟩ : _ ∧ _ ∧ _ ∧ _ ∧ _)
        clear hps hf hp0 hK hRe hR hr ps3 F3 p3 f3 h3 htk
        go_wp2_with fail
        refine hca.mono ?_
        cases r with
        | bad e =>
          rintro e w4 ⟨⟨x, rfl⟩, f4⟩
          refine ⟨rfl, ?_⟩
          rw [← HB.out.2.2.2.2]
          exact ⟨⟨_, rfl⟩, HB.out.2.1.trans f4⟩
        | ok p j =>
          obtain ⟨hij, hj, ha0, ha1⟩ := hgi p j (by rw [HSL.out]; omega) rfl
          rintro e w4 ⟨⟨v, rfl, op, st, ka, m, c2, ks, rfl, hpe, hst, hk⟩, h4, f4⟩
          obtain ⟨hps, hf, hp0, hK, hRe⟩ := HB.out
          have ps4 := hps.keep f4 (by omega)
          have F4 := hf.trans f4
          have p4 := hp0.keep f4 hgb
          obtain ⟨⟨xs, own4, row4⟩, hn⟩ := ps4
          have hnb : n ≤ 200 := by have := hK.2.2.2.1; omega
          have hsz4 : w.heap.size + 1 ≤ w4.heap.size := p4.cells.2.2.2.2.2
          obtain ⟨i0, hi0, z0, z1, z2⟩ := info_parts Tryz.info42
          have HO4 := hide own4
          have hK2 : PsK s.data.toList (gk - 1) j (ps ++ [p]) := hK.on hk1 (by omega) hj (by rw [HSL.out]; exact hs) ha0 (by omega)
          have H4 := hide (⟨row4, hn, F4, p4, h4, hpe, hst, hk, hK2, hRe⟩ : _ ∧ _ ∧ _ ∧ _ ∧ _ ∧ _ ∧ _ ∧ _ ∧ _ ∧ _)
          clear own4 row4 hn F4 p4 h4 hpe hst hk hps hf hp0 hK hRe f4 hca hgi hij hj ha0 ha1 hK2
          unfold partV
          go_wp2_with (at_builtin; refine wpList_append_lies _ rfl (.tmp 9) (.tmp 12) 91 rfl (w.heap.size + 1) 42 i0 _ 4 56 Tryz.underlying91' hi0 z0 z1 z2 rfl (by decide) (.slice (some ⟨gp, 0, none⟩) n c) n xs rfl (HO4.out.alloc _) ⟨w4.heap.size, 0, none⟩ 1 1 [.int .i64 op, .string st, .slice ka m c2, .int .i64 p.atoms] rfl rfl (news4 _ _ _ _ _ _) (by simp [Value.oneCell']) (by decide) (by unfold maxLen; omega) (by omega) (by rw [World.size_alloc]; omega) _ rfl ?_; intro g6 c6 w6 hown6 hg6 hat6 hlt6; have H6 := hide (⟨hown6, hg6⟩ : _ ∧ _); clear hown6 hg6 hat6 hlt6)
          go_roundg (gk - 1)
          case measure => omega
          case rel =>
            obtain ⟨row4, hn, F4, p4, h4, hpe, hst, hk, hK, hRe⟩ := H4.out
            obtain ⟨hown6, hg6⟩ := H6.out
            obtain ⟨ps6, f6⟩ := psr_app HO4.out row4 hn hpe hst hk hown6 hg6
            obtain ⟨hBg, _, _⟩ := own4_block HO4.out
            have h6 := h4.own f6 (by omega)
            have F6 := F4.own (by omega) f6
            have p6 := p4.keep f6 (by omega)
            exact ⟨g6, n + 1, c6, j, ps ++ [p], rfl, ps6, h6, F6, p6, hK, hRe⟩
      · have hRe : o = .ok (joinD 4 ps) i := by
          rw [← hR, branches_end hmore]
          rfl
        obtain ⟨e2, e3⟩ := take_no hmore i
        rw [e2, e3] at htk
        have HB := hide (⟨hps, hf, hp0, hRe, hK⟩ : _ ∧ _ ∧ _ ∧ _ ∧ _)
        clear hps hrd hf hp0 hK hRe hR hpc hgo hmore e2 e3
        go_wp2_with fail
        refine htk.mono ?_
        rintro e w3 ⟨rfl, h3, f3⟩
        obtain ⟨hps, hf, hp0, hRe, hK⟩ := HB.out
        have F3 := hf.trans f3
        have ps3 := hps.keep f3 (by omega)
        have p3 := hp0.keep f3 hgb
        have hcap := ps3.cap
        have hjn := join_any b 4 gp c ps w3 (ps3.ps (by omega)) hK.2.2.1 (by have := hK.2.2.2.1; omega) hcap.1 hK.2.2.2.2 (by omega)
        rw [← ps3.len] at hjn
        have HB := hide (⟨h3, F3, p3, hRe⟩ : _ ∧ _ ∧ _ ∧ _)
        clear hps hf hp0 hRe hK h3 f3 F3 ps3 p3 htk hcap
        go_wp2_with fail
        refine hjn.mono ?_
        rintro e w5 ⟨⟨v, rfl, op', st', ka', m', c', ks', rfl, hpe, hst', hk⟩, f5⟩
        have p5 := HB.out.2.2.1.keep (f5 b) hgb
        have h5 := rd_all HB.out.1 f5
        have F5 := HB.out.2.1.trans (f5 b)
        obtain ⟨a0, a1, a2, a3, af, al⟩ := p5.cells
        have H5 := hide (⟨p5, h5, F5, hpe, hk⟩ : _ ∧ _ ∧ _ ∧ _ ∧ _)
        clear p5 h5 F5 hpe hk f5 hjn
        unfold partV
        go_wp2
        obtain ⟨p5, h5, F5, hpe, hk⟩ := H5.out
        exact pc_ret rfl rfl rfl p5 hpe hst' hk h5 F5 hgb (Nat.le_refl _) HB.out.2.2.2
theorem expr_any (b : Nat) (s : ByteArray) (hb1 : 1 < b) (hs : s.size ≤ 200) : ∀ (f d : Nat), d + f = 20 → ReadsOK 20 b s d (eexprD s.data.toList f)
  | 0, d, hd => by
    unfold eexprD
    have hg := goes_atom (l := s.data.toList) (f := 0) (ex := fun _ => .bad 5) (fun h => absurd rfl h)
    have hgp := goes_piece (l := s.data.toList) (f := 0) (ex := fun _ => .bad 5) (fun h => absurd rfl h)
    exact expr_step b s d _ hb1 hs (branch_any b s d _ hb1 hs (piece_any b s d 0 _ hb1 hs (atom_any b s d 0 _ hb1 hs hd (fun h => absurd rfl h) (fun h => absurd rfl h)) hg) hgp) (goes_branch hgp)
  | f + 1, d, hd => by
    unfold eexprD
    have ge := goes_expr s.data.toList f
    have hg := goes_atom (l := s.data.toList) (f := f + 1) (ex := eexprD s.data.toList f) (fun _ => ge)
    have hgp := goes_piece (l := s.data.toList) (f := f + 1) (ex := eexprD s.data.toList f) (fun _ => ge)
    exact expr_step b s d _ hb1 hs (branch_any b s d _ hb1 hs (piece_any b s d (f + 1) _ hb1 hs (atom_any b s d (f + 1) _ hb1 hs hd (fun _ => expr_any b s hb1 hs f (d + 1) (by omega)) (fun _ => ge)) hg) hgp) (goes_branch hgp)
end Go.Proofs.YtdlljlmgoiobpaaGreatDoor
/- The reader: a whole text. -/
namespace Go.Proofs.YtdlljlmgoiobpaaGreatDoor
open Go.RowKit Go.Maps
def ReadP (o : Res PtD) (w : World) (e : Ending) (w' : World) : Prop := match o with
  | .bad r => (∃ p, e = .panicked (thrown (r : Int) p)) ∧ Below w.heap.size w w'
  | .ok p _ => (∃ v b, e = .returned v ∧ w.heap.size ≤ b ∧ PtIs b w' p v) ∧ Below w.heap.size w w'
theorem FrE.below {b : Nat} {w w' : World} (h : FrE b w w') (hb : w.heap.size ≤ b) : Below w.heap.size w w' := ⟨h.os, h.tape, h.output, h.size, fun k hk => h.block k hk (by omega)⟩
set_option maxRecDepth 100000 in
set_option maxHeartbeats 2000000 in
theorem eread_any (s : ByteArray) (w : World) (hM : MaxW w) (h1 : 1 < w.heap.size) (hmx : s.size ≤ 1000000000000000) : Calls Tryz.prog 11 #[.string s] w (ReadP (readD s.data.toList) w) := by
  have hsl : s.data.toList.length = s.size := by simp
  by_cases hlong : 200 < s.size
  · have hrd : readD s.data.toList = .bad 1 := by unfold readD; rw [if_pos (by rw [hsl]; exact hlong)]
    have hI : (200 : Int) < (s.size : Int) := by omega
    rw [hrd]
    clear hrd hsl
    go_enter Tryz.func11, Tryz.ntmps11
    go_wp2_with (go_at_call 19; refine (throw_any _ _ _).mono ?_; rintro e w2 ⟨rfl, hw⟩; rw [hw]; clear hw)
    exact ⟨rfl, ⟨_, rfl⟩, (FrE.alloc w.heap.size w _).below (Nat.le_refl _)⟩
  · have hs : s.size ≤ 200 := by omega
    have hI : ¬ ((200 : Int) < (s.size : Int)) := by omega
    have hrd : readD s.data.toList = wholeD s.data.toList (eexprD s.data.toList 20 0) := by unfold readD; rw [if_neg (by rw [hsl]; exact hlong)]
    rw [hrd]
    obtain ⟨W1, hW1⟩ : ∃ W1, (w.alloc (.cells #[.int .i64 0, .string ⟨#[]⟩, .slice none 0 0, .int .i64 0] 42)).alloc (.cells #[.string s, .int .i64 0, .int .i64 0] 68) = W1 := ⟨_, rfl⟩
    have h0 : RdB W1 (w.heap.size + 1) s 0 0 := by
      rw [← hW1]
      have := World.alloc_heap_new (w.alloc (.cells #[.int .i64 0, .string ⟨#[]⟩, .slice none 0 0, .int .i64 0] 42)) (.cells #[.string s, .int .i64 0, .int .i64 0] 68)
      rw [World.size_alloc] at this
      exact this
    have f0 : FrE (w.heap.size + 1) w W1 := by rw [← hW1]; exact (FrE.alloc _ _ _).trans (FrE.alloc _ _ _)
    have p0 : PaB W1 w.heap.size 0 ⟨#[]⟩ none 0 0 0 := by rw [← hW1]; exact (PaB.new w 0 ⟨#[]⟩ none 0 0 0).keep (FrE.alloc (w.heap.size + 1) _ _) (by omega)
    have hM1 : MaxW W1 := by
      obtain ⟨m, hm⟩ := hM
      exact ⟨m, (f0.cell h1 (by omega)).trans hm⟩
    obtain ⟨b, hb⟩ : ∃ b, w.heap.size + 1 = b := ⟨_, rfl⟩
    rw [hb] at h0 f0
    have hcall := expr_any b s (by omega) hs 20 0 rfl W1 0 h0 (Nat.zero_le _) hM1
    have hgi := goes_expr s.data.toList 20 0
    obtain ⟨o, ho⟩ : ∃ o, eexprD s.data.toList 20 0 = o := ⟨_, rfl⟩
    rw [ho] at hcall hgi
    rw [ho]
    have hgb : w.heap.size ≠ b := by omega
    have hwb : w.heap.size ≤ b := by omega
    have HB := hide (⟨hW1, hb⟩ : _ ∧ _)
    clear hrd ho hM hM1 hlong h0 hb hW1
    cases o with
    | bad r =>
      have H0 := hide f0
      clear f0 p0 hgi
      go_enter Tryz.func11, Tryz.ntmps11
      go_wp2_with fail
      rw [HB.out.1, HB.out.2]
      refine hcall.mono ?_
      rintro e w1 ⟨⟨p, rfl⟩, f1⟩
      exact ⟨rfl, ⟨_, rfl⟩, (H0.out.trans f1).below hwb⟩
    | ok p j =>
      obtain ⟨_, hj, _⟩ := hgi p j (Nat.zero_le _) rfl
      rw [hsl] at hj
      have H0 := hide (⟨f0, p0⟩ : _ ∧ _)
      have HSL := hide hsl
      clear f0 p0 hgi hsl
      go_enter Tryz.func11, Tryz.ntmps11
      go_wp2_with fail
      rw [HB.out.1, HB.out.2]
      refine hcall.mono ?_
      rintro e w1 ⟨⟨v, rfl, op, st, ka, m, c, ks, rfl, hpe, hst, hk⟩, h2, f1⟩
      obtain ⟨W2, hW2⟩ : ∃ W2, w1.alloc (.cells #[.int .i64 op, .string st, .slice ka m c, .int .i64 p.atoms] 42) = W2 := ⟨_, rfl⟩
      have f12 : FrE b w1 W2 := by rw [← hW2]; exact FrE.alloc _ _ _
      have F2 := (H0.out.1.trans f1).trans f12
      have p1 := H0.out.2.keep f1 hgb
      have p2 := p1.keep f12 hgb
      have hg1 : b < w1.heap.size := (Array.getElem?_eq_some_iff.1 h2).1
      have h3 : RdB W2 b s j 0 := by rw [← hW2]; exact h2.alloc _
      have q2 : PaB W2 w1.heap.size op st ka m c p.atoms := by rw [← hW2]; exact PaB.new w1 op st ka m c p.atoms
      have k2 := hk.keep f12
      obtain ⟨c0, c1, c2, cf⟩ := h3.cells
      obtain ⟨a0, a1, a2, a3, af, al⟩ := q2.cells
      obtain ⟨b0, b1, b2, b3, bf, bl⟩ := p2.cells
      have hne : w.heap.size ≠ w1.heap.size := by omega
      have H2 := hide (⟨F2, p2, hpe, k2⟩ : _ ∧ _ ∧ _ ∧ _)
      clear F2 p1 p2 h3 q2 k2 f1 f12 h2 hk hpe hcall cf c2 af
      unfold partV
      by_cases hlt : j < s.size
      · have hjI : (j : Int) < (s.size : Int) := by omega
        go_wp2_with (go_at_call 19; refine (throw_any _ _ _).mono ?_; rintro e w2 ⟨rfl, hw⟩; rw [hw]; clear hw)
        refine ⟨rfl, ?_⟩
        unfold wholeD
        simp only
        rw [if_pos (by rw [HSL.out]; exact hlt)]
        exact ⟨⟨_, rfl⟩, H2.out.1.below hwb⟩
      · have hjI : ¬ ((j : Int) < (s.size : Int)) := by omega
        go_wp2
        obtain ⟨F2, p2, hpe, k2⟩ := H2.out
        have fs := set4_fr W2 w.heap.size op st ka m c p.atoms
        have k3 := k2.own p2 (by decide) fs
        have F3 := F2.own (Nat.le_refl _) fs
        refine part_at rfl rfl rfl (p2.set4 op st ka m c p.atoms) ?_
        unfold wholeD
        simp only
        rw [if_neg (by rw [HSL.out]; exact hlt)]
        exact ⟨⟨_, b, rfl, hwb, op, st, ka, m, c, ks, rfl, hpe, hst, k3⟩, F3.below hwb⟩
end Go.Proofs.YtdlljlmgoiobpaaGreatDoor
/- ere.Parse: what is thrown is caught. -/
namespace Go.Proofs.YtdlljlmgoiobpaaGreatDoor
open Go.RowKit Go.Maps
/-- The boxes of Parse's three results. -/
def ResB (W : World) (g : Nat) (op : Int) (st : ByteArray) (ka : Option Addr) (m c : Nat) (en pl : Int) : Prop := W.heap[g]? = some (.cells #[.int .i64 op, .string st, .slice ka m c] 24 (0, 0)) ∧ W.heap[g + 1]? = some (.cells #[.int .i64 en] 25 (0, 0)) ∧ W.heap[g + 2]? = some (.cells #[.int .i64 pl] 3 (0, 0))
theorem ResB.cells {W : World} {g : Nat} {op : Int} {st : ByteArray} {ka : Option Addr} {m c : Nat} {en pl : Int} (h : ResB W g op st ka m c en pl) : W.cell? ⟨g, 0, none⟩ = some (.int .i64 op) ∧ W.cell? ⟨g, 1, none⟩ = some (.string st) ∧ W.cell? ⟨g, 2, none⟩ = some (.slice ka m c) ∧ W.cell? ⟨g + 1, 0, none⟩ = some (.int .i64 en) ∧ W.cell? ⟨g + 2, 0, none⟩ = some (.int .i64 pl) ∧ (∀ j, W.frozen? ⟨g, j, none⟩ = false) ∧ (∀ j, W.frozen? ⟨g + 1, j, none⟩ = false) ∧ (∀ j, W.frozen? ⟨g + 2, j, none⟩ = false) ∧ g + 2 < W.heap.size := by
  obtain ⟨h0, h1, h2⟩ := h
  refine ⟨by simp [World.cell?, h0], by simp [World.cell?, h0], by simp [World.cell?, h0], by simp [World.cell?, h1], by simp [World.cell?, h2], fun j => by simp [World.frozen?, h0], fun j => by simp [World.frozen?, h1], fun j => by simp [World.frozen?, h2], (Array.getElem?_eq_some_iff.1 h2).1⟩
/-- All but the three boxes stays. -/
structure FrR (g : Nat) (W W' : World) : Prop where
  os : W'.os = W.os
  tape : W'.tape = W.tape
  output : W'.output = W.output
  size : W.heap.size ≤ W'.heap.size
  block : ∀ k, k < W.heap.size → k < g ∨ g + 2 < k → W'.heap[k]? = W.heap[k]?
theorem FrR.trans {g : Nat} {A B C : World} (h : FrR g A B) (k : FrR g B C) : FrR g A C := ⟨k.os.trans h.os, k.tape.trans h.tape, k.output.trans h.output, Nat.le_trans h.size k.size, fun j hj hne => (k.block j (Nat.lt_of_lt_of_le hj h.size) hne).trans (h.block j hj hne)⟩
theorem FrR.alloc (g : Nat) (W : World) (o : Obj) : FrR g W (W.alloc o) := ⟨rfl, rfl, rfl, by rw [World.size_alloc]; omega, fun k hk _ => Below.heap_alloc W o k hk⟩
theorem FrR.drew {g : Nat} {w W : World} (h : FrR g w W) : FrR g w W.drew := ⟨h.os, h.tape, h.output, h.size, h.block⟩
theorem FrR.set (g : Nat) (W : World) (i j : Nat) (v : Value) (hi : g ≤ i ∧ i ≤ g + 2) : FrR g W (W.setCell ⟨i, j, none⟩ v) := by
  have := FrE.set i W j v
  exact ⟨this.os, this.tape, this.output, this.size, fun k hk hne => this.block k hk (by omega)⟩
/-- What the three stores leave. -/
def set5 (W : World) (g : Nat) (op : Int) (st : ByteArray) (ka : Option Addr) (m c : Nat) (en pl : Int) : World := ((((W.setCell ⟨g, 0, none⟩ (.int .i64 op)).setCell ⟨g, 1, none⟩ (.string st)).setCell ⟨g, 2, none⟩ (.slice ka m c)).setCell ⟨g + 1, 0, none⟩ (.int .i64 en)).setCell ⟨g + 2, 0, none⟩ (.int .i64 pl)
theorem set5_fr (W : World) (g : Nat) (op : Int) (st : ByteArray) (ka : Option Addr) (m c : Nat) (en pl : Int) : FrR g W (set5 W g op st ka m c en pl) :=
  ((((FrR.set g W g 0 _ (by omega)).trans (FrR.set g _ g 1 _ (by omega))).trans (FrR.set g _ g 2 _ (by omega))).trans (FrR.set g _ (g + 1) 0 _ (by omega))).trans (FrR.set g _ (g + 2) 0 _ (by omega))
theorem set_far {W : World} {i j k : Nat} {v : Value} (h : k ≠ i) : (W.setCell ⟨i, j, none⟩ v).heap[k]? = W.heap[k]? := by
  show (W.heap.modify i _)[k]? = _
  rw [Array.getElem?_modify, if_neg (fun e => h e.symm)]
theorem ResB.set5 {W : World} {g : Nat} {op0 : Int} {st0 : ByteArray} {ka0 : Option Addr} {m0 c0 : Nat} {en0 pl0 : Int} (h : ResB W g op0 st0 ka0 m0 c0 en0 pl0) (op : Int) (st : ByteArray) (ka : Option Addr) (m c : Nat) (en pl : Int) : ResB (set5 W g op st ka m c en pl) g op st ka m c en pl := by
  obtain ⟨h0, h1, h2⟩ := h
  unfold Go.Proofs.YtdlljlmgoiobpaaGreatDoor.set5
  refine ⟨?_, ?_, ?_⟩
  · exact (set_far (i := g + 2) (k := g) (by omega)).trans ((set_far (i := g + 1) (k := g) (by omega)).trans (cells_set (cells_set (cells_set h0 _) _) _))
  · exact (set_far (i := g + 2) (k := g + 1) (by omega)).trans (cells_set ((set_far (i := g) (k := g + 1) (by omega)).trans ((set_far (i := g) (k := g + 1) (by omega)).trans ((set_far (i := g) (k := g + 1) (by omega)).trans h1))) _)
  · exact cells_set ((set_far (i := g + 1) (k := g + 2) (by omega)).trans ((set_far (i := g) (k := g + 2) (by omega)).trans ((set_far (i := g) (k := g + 2) (by omega)).trans ((set_far (i := g) (k := g + 2) (by omega)).trans h2)))) _
theorem ResB.alloc {W : World} {g : Nat} {op : Int} {st : ByteArray} {ka : Option Addr} {m c : Nat} {en pl : Int} (h : ResB W g op st ka m c en pl) (o : Obj) : ResB (W.alloc o) g op st ka m c en pl := by
  obtain ⟨h0, h1, h2⟩ := h
  exact ⟨(Below.heap_alloc _ _ _ (Array.getElem?_eq_some_iff.1 h0).1).trans h0, (Below.heap_alloc _ _ _ (Array.getElem?_eq_some_iff.1 h1).1).trans h1, (Below.heap_alloc _ _ _ (Array.getElem?_eq_some_iff.1 h2).1).trans h2⟩
set_option maxRecDepth 100000 in
set_option maxHeartbeats 1000000 in
theorem catch_idle (g : Nat) (w : World) :
    CallsD Tryz.prog 10 #[.pointer (some ⟨g, 0, none⟩), .pointer (some ⟨g + 1, 0, none⟩), .pointer (some ⟨g + 2, 0, none⟩)] .returning w fun e u' w' => e = .returned (.tuple #[]) ∧ u' = .returning ∧ w' = w := by
  refine callsD_of_wpS Tryz.func10 rfl fun c₀ cs hu => ?_
  apply wpS_seq
  apply wpS_region
  simp [wpOpsS, go_sem, recoverD, hu, Tryz.ntmps10, Exit.thenS]
  refine wpS_of_wp ?_
  change Code.wp Tryz.prog _ _ { tmps := #[.pointer (some ⟨g, 0, none⟩), .pointer (some ⟨g + 1, 0, none⟩), .pointer (some ⟨g + 2, 0, none⟩), .nilIface, undef, .nilIface, undef, undef, undef, undef, undef, undef, undef, undef, undef], defers := [] } w
  go_wp2
  cases c₀
  simp_all [bodyPostS, results, Tryz.results10]
set_option maxRecDepth 100000 in
set_option maxHeartbeats 1000000 in
theorem catch_panicking (g : Nat) (en pl : Int) (op0 : Int) (st0 : ByteArray) (ka0 : Option Addr) (m0 c0 : Nat) (en0 pl0 : Int) (w : World) (h : ResB w g op0 st0 ka0 m0 c0 en0 pl0) :
    CallsD Tryz.prog 10 #[.pointer (some ⟨g, 0, none⟩), .pointer (some ⟨g + 1, 0, none⟩), .pointer (some ⟨g + 2, 0, none⟩)] (.panicking (thrown en pl)) w fun e u' w' => e = .returned (.tuple #[]) ∧ u' = .panicking [{ v := .iface 40 (.agg #[.int .i64 en, .int .i64 pl]), recovered := true }] ∧ ResB w' g 0 ⟨#[]⟩ none 0 0 en pl ∧ FrR g w w' := by
  unfold thrown
  refine callsD_of_wpS Tryz.func10 rfl fun c₀ cs hu => ?_
  apply wpS_seq
  apply wpS_region
  simp [wpOpsS, go_sem, recoverD, hu, Tryz.ntmps10, Exit.thenS]
  refine wpS_of_wp ?_
  obtain ⟨V, hV⟩ : ∃ V, Value.iface 40 (Value.agg #[Value.int IntKind.i64 en, Value.int IntKind.i64 pl]) = V := ⟨_, rfl⟩
  change Code.wp Tryz.prog _ _ { tmps := #[.pointer (some ⟨g, 0, none⟩), .pointer (some ⟨g + 1, 0, none⟩), .pointer (some ⟨g + 2, 0, none⟩), .iface 40 (.agg #[.int .i64 en, .int .i64 pl]), undef, .iface 40 (.agg #[.int .i64 en, .int .i64 pl]), undef, undef, undef, undef, undef, undef, undef, undef, undef], defers := [] } w
  clear hV
  obtain ⟨c0', c1, c2, c3, c4, f0, f1, f2, hl⟩ := h.cells
  have HH := hide h
  have hl0 : g < w.heap.size := by omega
  have hl1 : g + 1 < w.heap.size := by omega
  clear h
  have hta : ∀ w : World, (Instr.typeAssert (.iface 40 (.agg #[.int .i64 en, .int .i64 pl])) 20 40 false).run Tryz.prog w = .ok (.agg #[.int .i64 en, .int .i64 pl]) w := fun w => by rfl
  go_wp2
  go_region
  have hR := (HH.out.set5 0 ⟨#[]⟩ none 0 0 en pl).alloc (.cells #[.int .i64 en, .int .i64 pl] 40)
  have hF := ((set5_fr w g 0 ⟨#[]⟩ none 0 0 en pl).trans (FrR.alloc g _ (.cells #[.int .i64 en, .int .i64 pl] 40))).drew
  have HZ := hide (⟨hR, hF⟩ : _ ∧ _)
  clear hR hF HH hta hu c0' c1 c2 c3 c4 f0 f1 f2
  show bodyPostS Tryz.prog Tryz.f10 c₀ cs _ Exit.normal _ _ _
  cases c₀
  simp [bodyPostS, results, Tryz.results10]
  exact HZ.out
theorem ResB.below {W W' : World} {g : Nat} {op : Int} {st : ByteArray} {ka : Option Addr} {m c : Nat} {en pl : Int} (h : ResB W g op st ka m c en pl) (hb : Below W.heap.size W W') : ResB W' g op st ka m c en pl := by
  obtain ⟨h0, h1, h2⟩ := h
  exact ⟨(hb.block _ (Array.getElem?_eq_some_iff.1 h0).1).trans h0, (hb.block _ (Array.getElem?_eq_some_iff.1 h1).1).trans h1, (hb.block _ (Array.getElem?_eq_some_iff.1 h2).1).trans h2⟩
theorem FrR.below {g : Nat} {W W' : World} (h : FrR g W W') (hg : g ≤ W.heap.size := by omega) : Below g W W' := ⟨h.os, h.tape, h.output, h.size, fun k hk => h.block k (by omega) (.inl hk)⟩
theorem below_weaken {B C : Nat} {W W' : World} (h : Below B W W') (hC : C ≤ B) : Below C W W' := ⟨h.os, h.tape, h.output, h.size, fun k hk => h.block k (by omega)⟩
theorem ExE.res {b x : Nat} {W W' : World} (hx : x + 2 ≤ b) (hf : FrR x W W') {g o : Nat} {e : ExprD} (h : ExE b W g o e) : ExE b W' g o e := by
  have hc : ∀ g j, g < W.heap.size → b < g → W'.cell? ⟨g, j, none⟩ = W.cell? ⟨g, j, none⟩ := fun g j hg hb => by simp only [World.cell?, hf.block g hg (.inr (by omega))]
  have ht : ∀ g, Ty24 W g → b < g → Ty24 W' g := fun g h hb => by
    have hl := h.lt
    obtain ⟨a, y, h⟩ := h
    exact ⟨a, y, (hf.block g hl (.inr (by omega))).trans h⟩
  induction h with
  | nil g o op st hg hb h0 h1 h2 hs => exact .nil g o op st (ht g hg hb) hb ((hc g _ hg.lt hb).trans h0) ((hc g _ hg.lt hb).trans h1) ((hc g _ hg.lt hb).trans h2) hs
  | row g o op st gk ck ks hg hb h0 h1 h2 hs hck _ ih => exact .row g o op st gk ck ks (ht g hg hb) hb ((hc g _ hg.lt hb).trans h0) ((hc g _ hg.lt hb).trans h1) ((hc g _ hg.lt hb).trans h2) hs hck ih
theorem KidE.res {b x : Nat} {W W' : World} {ka : Option Addr} {m c : Nat} {ks : List ExprD} (h : KidE b W ka m c ks) (hx : x + 2 ≤ b) (hf : FrR x W W') : KidE b W' ka m c ks := by
  rcases h with h | ⟨gk, h1, h2, h3, h4⟩
  · exact .inl h
  · exact .inr ⟨gk, h1, h2, h3, fun i k hk => (h4 i k hk).res hx hf⟩
/-- What Parse answers. -/
def ParseP (o : Res PtD) (w : World) (e : Ending) (w' : World) : Prop := Below w.heap.size w w' ∧ match o with
  | .bad r => ∃ pl, e = .returned (.tuple #[.agg #[.int .i64 0, .string ⟨#[]⟩, .slice none 0 0], .int .i64 (r : Int), .int .i64 pl])
  | .ok p _ => ∃ (b : Nat) (op : Int) (st : ByteArray) (ka : Option Addr) (m c : Nat) (ks : List ExprD), e = .returned (.tuple #[.agg #[.int .i64 op, .string st, .slice ka m c], .int .i64 0, .int .i64 0]) ∧ w.heap.size ≤ b ∧ p.e = .mk op st.data.toList ks ∧ st.size ≤ 1000000000 ∧ KidE b w' ka m c ks
set_option maxRecDepth 100000 in
set_option maxHeartbeats 1000000 in
theorem eparse_any (s : ByteArray) (w : World) (hM : MaxW w) (h1 : 1 < w.heap.size) (hmx : s.size ≤ 1000000000000000) : Calls Tryz.prog 5 #[.string s] w (ParseP (readD s.data.toList) w) := by
  obtain ⟨W0, hW0⟩ : ∃ W0, ((w.alloc (.cells #[.int .i64 0, .string ⟨#[]⟩, .slice none 0 0] 24)).alloc (.cells #[.int .i64 0] 25)).alloc (.cells #[.int .i64 0] 3) = W0 := ⟨_, rfl⟩
  have hz0 : W0.heap.size = w.heap.size + 3 := by rw [← hW0]; simp
  have r0 : ResB W0 w.heap.size 0 ⟨#[]⟩ none 0 0 0 0 := by
    rw [← hW0]
    refine ⟨?_, ?_, ?_⟩
    · exact (Below.heap_alloc _ _ _ (by rw [World.size_alloc, World.size_alloc]; omega)).trans ((Below.heap_alloc _ _ _ (by rw [World.size_alloc]; omega)).trans (World.alloc_heap_new w _))
    · have := World.alloc_heap_new (w.alloc (.cells #[.int .i64 0, .string ⟨#[]⟩, .slice none 0 0] 24)) (.cells #[.int .i64 0] 25)
      rw [World.size_alloc] at this
      exact (Below.heap_alloc _ _ _ (by rw [World.size_alloc, World.size_alloc]; omega)).trans this
    · have := World.alloc_heap_new ((w.alloc (.cells #[.int .i64 0, .string ⟨#[]⟩, .slice none 0 0] 24)).alloc (.cells #[.int .i64 0] 25)) (.cells #[.int .i64 0] 3)
      rw [World.size_alloc, World.size_alloc] at this
      exact this
  have b0 : Below w.heap.size w W0 := by
    rw [← hW0]
    exact (FrE.below (b := w.heap.size) (((FrE.alloc _ _ _).trans (FrE.alloc _ _ _)).trans (FrE.alloc _ _ _)) (Nat.le_refl _))
  have hM0 : MaxW W0 := hM.below h1 b0
  have hcall := eread_any s W0 hM0 (by omega) hmx
  have hmf : ∀ (fn : Fn) (first cap : Array Value) (w : World), (Instr.makeFunc fn first cap).run Tryz.prog w = .ok (.func fn first cap) w := fun _ _ _ _ => rfl
  obtain ⟨o, ho⟩ : ∃ o, readD s.data.toList = o := ⟨_, rfl⟩
  rw [ho] at hcall ⊢
  have H0 := hide (⟨hz0, r0, b0⟩ : _ ∧ _ ∧ _)
  clear hz0 r0 b0 hM hM0 ho
  cases o with
  | bad r =>
    go_enter_defers Tryz.func5, Tryz.ntmps5
    go_wp2_with fail
    refine hcall.mono ?_
    rintro e w1 ⟨⟨pl, rfl⟩, hb1⟩
    obtain ⟨hz0, r0, b0⟩ := H0.out
    have r1 := r0.below hb1
    refine leaves_cons (f := 10) (args := #[.pointer (some ⟨w.heap.size, 0, none⟩), .pointer (some ⟨w.heap.size + 1, 0, none⟩), .pointer (some ⟨w.heap.size + 2, 0, none⟩)]) (by simp) (by simp [go_sem]) ?_
    refine (catch_panicking w.heap.size r pl 0 ⟨#[]⟩ none 0 0 0 0 w1 r1).mono ?_
    rintro e u' w2 ⟨rfl, rfl, hR, hF⟩
    obtain ⟨c0, c1, c2, c3, c4, _⟩ := hR.cells
    have hB := (b0.trans (below_weaken hb1 (by omega))).trans (hF.below (by have := hb1.size; omega))
    have HB := hide hB
    clear hB hF hR r1 r0 b0 hb1 H0 hcall hmf
    simp [Leaves, settle, results, Tryz.results5, go_sem, c0, c1, c2, c3, c4]
    exact ⟨HB.out, pl, rfl⟩
  | ok p j =>
    go_enter_defers Tryz.func5, Tryz.ntmps5
    go_wp2_with fail
    refine hcall.mono ?_
    rintro e w1 ⟨⟨v, b, rfl, hwb, op, st, ka, m, c, ks, rfl, hpe, hst, hk⟩, hb1⟩
    obtain ⟨hz0, r0, b0⟩ := H0.out
    have r1 := r0.below hb1
    obtain ⟨c0, c1, c2, c3, c4, f0, f1, f2, hl⟩ := r1.cells
    have c4 : w1.cell? ⟨w.heap.size + 1 + 1, 0, none⟩ = some (.int .i64 0) := c4
    have f2 : ∀ j, w1.frozen? ⟨w.heap.size + 1 + 1, j, none⟩ = false := f2
    have H1 := hide (⟨r1, hb1, b0, hz0, hpe, hst, hk, hwb⟩ : _ ∧ _ ∧ _ ∧ _ ∧ _ ∧ _ ∧ _ ∧ _)
    clear r1 hb1 b0 r0 hz0 hpe hst hk hwb H0 hcall hW0
    unfold partV
    have hfd : ∀ w : World, (Instr.field 42 (.agg #[.int .i64 op, .string st, .slice ka m c, .int .i64 p.atoms]) 0).run Tryz.prog w = .ok (.agg #[.int .i64 op, .string st, .slice ka m c]) w := fun w => by rfl
    go_wp2
    refine leaves_cons (f := 10) (args := #[.pointer (some ⟨w.heap.size, 0, none⟩), .pointer (some ⟨w.heap.size + 1, 0, none⟩), .pointer (some ⟨w.heap.size + 2, 0, none⟩)]) (by simp) (by simp [go_sem]) ?_
    refine (catch_idle w.heap.size _).mono ?_
    rintro e u' w2 ⟨rfl, rfl, rfl⟩
    obtain ⟨r1, hb1, b0, hz0, hpe, hst, hk, hwb⟩ := H1.out
    clear c0 c1 c2 c3 c4 f0 f1 f2
    have r2 := r1.set5 op st ka m c 0 0
    have hF := set5_fr w1 w.heap.size op st ka m c 0 0
    obtain ⟨c0, c1, c2, c3, c4, _⟩ := r2.cells
    have hB := (b0.trans (below_weaken hb1 (by omega))).trans (hF.below (by have := hb1.size; omega))
    have hk2 : KidE b (Go.Proofs.YtdlljlmgoiobpaaGreatDoor.set5 w1 w.heap.size op st ka m c 0 0) ka m c ks := hk.res (by omega) hF
    unfold Go.Proofs.YtdlljlmgoiobpaaGreatDoor.set5 at c0 c1 c2 c3 c4
    have HB := hide (⟨hB, hk2⟩ : _ ∧ _)
    clear hB hF r1 b0 hb1 H1 hmf r2 hk2 hfd
    simp [Leaves, settle, results, Tryz.results5, go_sem, c0, c1, c2, c3, c4]
    exact ⟨HB.out.1, b, op, st, ka, m, c, ks, rfl, by omega, hpe, hst, HB.out.2⟩
end Go.Proofs.YtdlljlmgoiobpaaGreatDoor
