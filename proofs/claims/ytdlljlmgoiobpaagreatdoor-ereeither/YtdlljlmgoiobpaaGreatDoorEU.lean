/- Merged: ErU, ErV. -/
import Derived.Test.YtdlljlmgoiobpaaGreatDoorErT
/- The reader: a piece. -/
namespace Go.Proofs.YtdlljlmgoiobpaaGreatDoor
open Go.RowKit Go.Maps
/-- A block of a part, and what it means. -/
def PtB (b : Nat) (W : World) (g : Nat) (p : PtD) : Prop := ∃ (op : Int) (st : ByteArray) (ka : Option Addr) (m c : Nat) (ks : List ExprD), PaB W g op st ka m c p.atoms ∧ p.e = .mk op st.data.toList ks ∧ st.size ≤ 1000000000 ∧ KidE b W ka m c ks
theorem PtB.keep {b g : Nat} {W W' : World} {p : PtD} (h : PtB b W g p) (hf : FrE b W W') (hg : g ≠ b) : PtB b W' g p := by
  obtain ⟨op, st, ka, m, c, ks, hp, he, hs, hk⟩ := h
  exact ⟨op, st, ka, m, c, ks, hp.keep hf hg, he, hs, hk.keep hf⟩
theorem PtB.own {b g x t : Nat} {W W' : World} {p : PtD} {a : Array Value} {y : Nat × Nat} (h : PtB b W g p) (hx : W.heap[x]? = some (.cells a t y)) (ht : t ≠ 24) (hf : FrE x W W') (hg : g ≠ x) : PtB b W' g p := by
  obtain ⟨op, st, ka, m, c, ks, hp, he, hs, hk⟩ := h
  exact ⟨op, st, ka, m, c, ks, hp.keep hf hg, he, hs, hk.own hx ht hf⟩
/-- The sign behind a piece, once asked for. -/
def ReadyR (l : List UInt8) (R : Res PtD) (k : Nat) (q : PtD) (j : Nat) (t : TimesD) (ok : Bool) : Prop := l.length ≤ j + k ∧ j ≤ l.length ∧ 0 ≤ q.atoms ∧ q.atoms ≤ 1000000 ∧ match ok with
  | true => TmOK t ∧ R = repsD l k (repeatD q t) j
  | false => R = .ok q j
theorem ready_none {l : List UInt8} {R : Res PtD} {k j : Nat} {q : PtD} {t : TimesD} (hR : R = repsD l k q j) (hk : l.length ≤ j + k) (hj : j ≤ l.length) (ha : 0 ≤ q.atoms ∧ q.atoms ≤ 1000000) (h : repD l j = none) : ReadyR l R k q j t false := by
  refine ⟨hk, hj, ha.1, ha.2, ?_⟩
  show R = .ok q j
  rw [hR]
  cases k with
  | zero => rfl
  | succ k => unfold repsD; rw [h]
theorem repD_lt {l : List UInt8} {j : Nat} {o : Res TimesD} (h : repD l j = some o) : j < l.length := by
  unfold repD at h
  split at h
  · rename_i hc; exact (List.getElem?_eq_some_iff.1 hc).1
  split at h
  · rename_i hc; exact (List.getElem?_eq_some_iff.1 hc).1
  split at h
  · rename_i hc; exact (List.getElem?_eq_some_iff.1 hc).1
  split at h
  · rename_i hc; exact (List.getElem?_eq_some_iff.1 hc).1
  · cases h
theorem ready_bad {l : List UInt8} {R : Res PtD} {k j e : Nat} {q : PtD} (hR : R = repsD l k q j) (hk : l.length ≤ j + k) (h : repD l j = some (.bad e)) : R = .bad e := by
  have := repD_lt h
  obtain ⟨k', rfl⟩ : ∃ k', k = k' + 1 := ⟨k - 1, by omega⟩
  rw [hR]
  unfold repsD
  rw [h]
theorem ready_ok {l : List UInt8} {R : Res PtD} {k j j' : Nat} {q : PtD} {t : TimesD} (hR : R = repsD l k q j) (hk : l.length ≤ j + k) (ha : 0 ≤ q.atoms ∧ q.atoms ≤ 1000000) (h : repD l j = some (.ok t j')) : 1 ≤ k ∧ j' ≤ l.length ∧ ReadyR l R (k - 1) q j' t true := by
  have h1 := repD_lt h
  obtain ⟨k', rfl⟩ : ∃ k', k = k' + 1 := ⟨k - 1, by omega⟩
  obtain ⟨g1, g2, g3⟩ := repD_goes h
  refine ⟨by omega, g2, by omega, g2, ha.1, ha.2, g3, ?_⟩
  rw [hR]
  show repsD l (k' + 1) q j = _
  rw [Nat.add_sub_cancel]
  conv => lhs; unfold repsD
  rw [h]
set_option maxRecDepth 100000 in
set_option maxHeartbeats 2000000 in
theorem piece_any (b : Nat) (s : ByteArray) (d f : Nat) (ex : Nat → Res PtD) (hb1 : 1 < b) (hs : s.size ≤ 200) (hat : ReadsOK 44 b s d (atomD f ex s.data.toList)) (hgo : GoesE s.data.toList (atomD f ex s.data.toList)) : ReadsOK 40 b s d (epieceD f ex s.data.toList) := by
  intro w i h hi hM
  have hsl : s.data.toList.length = s.size := by simp
  have hb : b < w.heap.size := (Array.getElem?_eq_some_iff.1 h).1
  have hgb : w.heap.size ≠ b := by omega
  obtain ⟨W0, hW0⟩ : ∃ W0, w.alloc (.cells #[.int .i64 0, .string ⟨#[]⟩, .slice none 0 0, .int .i64 0] 42) = W0 := ⟨_, rfl⟩
  have h0 : RdB W0 b s i d := by rw [← hW0]; exact h.alloc _
  have f0 : FrE b w W0 := by rw [← hW0]; exact FrE.alloc _ _ _
  have p0 : PaB W0 w.heap.size 0 ⟨#[]⟩ none 0 0 0 := by rw [← hW0]; exact PaB.new w 0 ⟨#[]⟩ none 0 0 0
  obtain ⟨o, ho⟩ : ∃ o, epieceD f ex s.data.toList i = o := ⟨_, rfl⟩
  rw [ho]
  have hca := hat W0 i h0 hi (hM.fr hb1 hb f0)
  obtain ⟨r, hr⟩ : ∃ r, atomD f ex s.data.toList i = r := ⟨_, rfl⟩
  unfold epieceD at ho
  rw [hr] at ho hca
  obtain ⟨c0, c1, c2, cf⟩ := h0.cells
  have hgi := hgo i
  rw [hr] at hgi
  clear h hat hM cf c2 hr hgo
  cases r with
  | bad e =>
    have H0 := hide (⟨f0, ho⟩ : _ ∧ _)
    clear f0 p0 h0 ho hgi
    go_enter Tryz.func40, Tryz.ntmps40
    go_wp2_with fail
    refine hca.mono ?_
    rintro e w1 ⟨⟨p, rfl⟩, f1⟩
    refine ⟨rfl, ?_⟩
    rw [← H0.out.2]
    exact ⟨⟨_, rfl⟩, H0.out.1.trans f1⟩
  | ok p j =>
    obtain ⟨hij, hj, hp0, hp1⟩ := hgi p j (by rw [hsl]; exact hi) rfl
    have hp1' : p.atoms ≤ 1000000 := by rw [hsl] at hj; omega
    simp only at ho
    obtain ⟨R, hR⟩ : ∃ R, repsD s.data.toList s.data.toList.length p j = R := ⟨_, rfl⟩
    rw [hR] at ho
    have H0 := hide (⟨f0, p0, ho, hR, hj, hp0, hp1'⟩ : _ ∧ _ ∧ _ ∧ _ ∧ _ ∧ _ ∧ _)
    clear f0 p0 h0 ho hR hgi hp0 hp1 hp1'
    go_enter Tryz.func40, Tryz.ntmps40
    go_wp2_with fail
    refine hca.mono ?_
    rintro e w1 ⟨⟨v, rfl, op, st, ka, m, c, ks, rfl, hpe, hst, hk⟩, h1, f1⟩
    have F1 := H0.out.1.trans f1
    have p1 := H0.out.2.1.keep f1 hgb
    have hg1 : w.heap.size < w1.heap.size := p1.cells.2.2.2.2.2
    have hgb1 : w1.heap.size ≠ b := by omega
    obtain ⟨W2, hW2⟩ : ∃ W2, w1.alloc (.cells #[.int .i64 op, .string st, .slice ka m c, .int .i64 p.atoms] 42) = W2 := ⟨_, rfl⟩
    have f12 : FrE b w1 W2 := by rw [← hW2]; exact FrE.alloc _ _ _
    have q2 : PtB b W2 w1.heap.size p := ⟨op, st, ka, m, c, ks, by rw [← hW2]; exact PaB.new w1 op st ka m c p.atoms, hpe, hst, hk.keep f12⟩
    have h2 : RdB W2 b s j d := by rw [← hW2]; exact h1.alloc _
    have HA := hide (⟨F1.trans f12, p1.keep f12 hgb, q2, h2⟩ : _ ∧ _ ∧ _ ∧ _)
    obtain ⟨g4, hg4⟩ : ∃ g4, w1.heap.size = g4 := ⟨_, rfl⟩
    rw [hg4] at HA hg1 hgb1
    have hg42 : g4 < W2.heap.size := HA.out.2.2.1.choose_spec.choose_spec.choose_spec.choose_spec.choose_spec.choose_spec.1.cells.2.2.2.2.2
    clear F1 p1 q2 h1 f1 f12 h2 hpe hk hca hW0 c0 c1
    unfold partV
    go_upto_region 3 with fail
    clear hg4 hW2
    go_cut [5, 6] from 7 (fun t5 o6 wx => ∃ (gt : Nat) (t : TimesD) (ok : Bool) (k jj : Nat) (q : PtD), t5 = .pointer (some ⟨gt, 0, none⟩) ∧ o6 = .bool ok ∧ g4 < gt ∧ PtB b wx g4 q ∧ TmB wx gt t ∧ RdB wx b s jj d ∧ FrE b w wx ∧ PaB wx w.heap.size 0 ⟨#[]⟩ none 0 0 0 ∧ ReadyR s.data.toList R k q jj t ok)
    case first =>
      have hrp := repeater_any b s j d W2 HA.out.2.2.2 (by rw [← hsl]; exact hj) hs
      obtain ⟨rp, hrpe⟩ : ∃ rp, repD s.data.toList j = rp := ⟨_, rfl⟩
      rw [hrpe] at hrp
      have HP := hide hrpe
      clear hrpe
      have HSL := hide hsl
      clear hsl
      match rp with
      | none =>
        go_wp2_with fail
        refine hrp.mono ?_
        rintro e w3 ⟨rfl, h3, f3⟩
        obtain ⟨F2, p2, q2, h2⟩ := HA.out
        have q3 := q2.keep f3 hgb1
        have F3 := F2.trans f3
        have p3 := p2.keep f3 hgb
        have hg43 : g4 < w3.heap.size := Nat.lt_of_lt_of_le hg42 f3.size
        have HB := hide (⟨h3, q3, F3, p3⟩ : _ ∧ _ ∧ _ ∧ _)
        clear h3 q3 F3 p3 f3 F2 p2 q2 h2 hrp
        unfold timesV
        go_wp2
        go_meet
        case rel =>
          obtain ⟨h3, q3, F3, p3⟩ := HB.out
          have fa := FrE.alloc b w3 (.cells #[.int .i64 0, .int .i64 0, .bool false] 103)
          exact ⟨w3.heap.size, ⟨0, 0, false⟩, false, _, j, p, rfl, rfl, hg43, q3.keep fa hgb1, TmB.new w3 ⟨0, 0, false⟩, h3.alloc _, F3.trans fa, p3.keep fa hgb, ready_none H0.out.2.2.2.1.symm (by omega) hj H0.out.2.2.2.2.2 HP.out⟩
      | some (.bad r) =>
        go_wp2_with fail
        refine hrp.mono ?_
        rintro e w3 ⟨⟨x, rfl⟩, f3⟩
        refine ⟨rfl, ?_⟩
        rw [← H0.out.2.2.1, ready_bad H0.out.2.2.2.1.symm (by omega) HP.out]
        exact ⟨⟨_, rfl⟩, HA.out.1.trans f3⟩
      | some (.ok t' j') =>
        go_wp2_with fail
        refine hrp.mono ?_
        rintro e w3 ⟨rfl, h3, f3⟩
        obtain ⟨F2, p2, q2, h2⟩ := HA.out
        have q3 := q2.keep f3 hgb1
        have F3 := F2.trans f3
        have p3 := p2.keep f3 hgb
        have hg43 : g4 < w3.heap.size := Nat.lt_of_lt_of_le hg42 f3.size
        have HB := hide (⟨h3, q3, F3, p3⟩ : _ ∧ _ ∧ _ ∧ _)
        clear h3 q3 F3 p3 f3 F2 p2 q2 h2 hrp
        unfold timesV
        go_wp2
        go_meet
        case rel =>
          obtain ⟨h3, q3, F3, p3⟩ := HB.out
          have fa := FrE.alloc b w3 (.cells #[.int .i64 t'.least, .int .i64 t'.most, .bool t'.endless] 103)
          exact ⟨w3.heap.size, t', true, _, j', p, rfl, rfl, hg43, q3.keep fa hgb1, TmB.new w3 t', h3.alloc _, F3.trans fa, p3.keep fa hgb, (ready_ok H0.out.2.2.2.1.symm (by omega) H0.out.2.2.2.2.2 HP.out).2.2⟩
    case rest =>
      obtain ⟨gt, t, ok, k, jj, q, rfl, rfl, hgt, hq, htm, hrd, hf, hp0, hrdy⟩ := hcut
      have HC := hide (⟨hgt, hq, htm, hrd, hf, hp0, hrdy⟩ : _ ∧ _ ∧ _ ∧ _ ∧ _ ∧ _ ∧ _)
      have HSL := hide hsl
      have HO := hide H0.out.2.2.1
      clear hgt hq htm hrd hf hp0 hrdy hsl HA hg42 H0 hst hij hj
      go_wp2
      go_loopg [5, 6] (2 * k + ok.toNat) (fun mm t5 o6 wr => ∃ (gt : Nat) (t : TimesD) (ok : Bool) (k jj : Nat) (q : PtD), mm = 2 * k + ok.toNat ∧ t5 = .pointer (some ⟨gt, 0, none⟩) ∧ o6 = .bool ok ∧ g4 < gt ∧ PtB b wr g4 q ∧ TmB wr gt t ∧ RdB wr b s jj d ∧ FrE b w wr ∧ PaB wr w.heap.size 0 ⟨#[]⟩ none 0 0 0 ∧ ReadyR s.data.toList R k q jj t ok)
      case atStart => exact ⟨gt, t, ok, k, jj, q, rfl, rfl, rfl, HC.out⟩
      case round =>
        clear HC
        obtain ⟨gt, t, ok, k, jj, q, hmm, rfl, rfl, hgt, hq, htm, hrd, hf, hp0, hrdy⟩ := hrel
        have hbw : b < wr.heap.size := Nat.lt_of_lt_of_le hb hf.size
        cases ok with
        | true =>
          obtain ⟨hk1, hj1, ha0, ha1, hTm, hR⟩ := hrdy
          obtain ⟨op, st, ka, m, c, ks, hpb, hpe, hst, hkd⟩ := hq
          have hrep := repeat_any b q t _ wr ⟨op, st, ka, m, c, ks, rfl, hpe, hst, hkd⟩ hTm ⟨ha0, ha1⟩ hbw
          obtain ⟨a0, a1, a2, a3, af, al⟩ := hpb.cells
          obtain ⟨b0, b1, b2, bf, bl⟩ := htm.cells
          have hat' := repeatD_atoms hTm ha0
          obtain ⟨q', hq'⟩ : ∃ q', repeatD q t = q' := ⟨_, rfl⟩
          rw [hq'] at hrep hR hat'
          have hgtb : gt ≠ b := by omega
          have HA := hide (⟨hk1, hj1, hR, hat', hpb, htm, hrd, hf, hp0, hmm⟩ : _ ∧ _ ∧ _ ∧ _ ∧ _ ∧ _ ∧ _ ∧ _ ∧ _ ∧ _)
          clear hk1 hj1 hR hat' hpb htm hrd hf hp0 hmm hpe hst hkd af bf hq' hTm ha0 ha1
          unfold partV timesV at hrep
          go_wp2_with fail
          refine hrep.mono ?_
          rintro e w5 ⟨⟨v, rfl, op', st', ka', m', c', ks', rfl, hpe', hst', hk'⟩, f5⟩
          obtain ⟨hk1, hj1, hR, hat', hpb, htm, hrd, hf, hp0, hmm⟩ := HA.out
          have pb5 := hpb.keep (f5 b) hgb1
          have tm5 := htm.keep (f5 b) hgtb
          have rd5 := rd_all hrd f5
          have F5 := hf.trans (f5 b)
          have p5 := hp0.keep (f5 b) hgb
          obtain ⟨W6, hW6⟩ : ∃ W6, (((w5.setCell ⟨g4, 0, none⟩ (.int .i64 op')).setCell ⟨g4, 1, none⟩ (.string st')).setCell ⟨g4, 2, none⟩ (.slice ka' m' c')).setCell ⟨g4, 3, none⟩ (.int .i64 q'.atoms) = W6 := ⟨_, rfl⟩
          have fs : FrE g4 w5 W6 := by rw [← hW6]; exact set4_fr w5 g4 op' st' ka' m' c' q'.atoms
          have pb6 : PaB W6 g4 op' st' ka' m' c' q'.atoms := by rw [← hW6]; exact pb5.set4 op' st' ka' m' c' q'.atoms
          have q6 : PtB b W6 g4 q' := ⟨op', st', ka', m', c', ks', pb6, hpe', hst', hk'.own pb5 (by decide) fs⟩
          have tm6 := tm5.keep fs (by omega)
          have rd6 := rd5.own fs hgb1
          have F6 := F5.own (by omega) fs
          have p6 := p5.keep fs (by omega)
          obtain ⟨W7, hW7⟩ : ∃ W7, W6.alloc (.cells #[.int .i64 t.least, .int .i64 t.most, .bool t.endless] 103) = W7 := ⟨_, rfl⟩
          have fa : FrE b W6 W7 := by rw [← hW7]; exact FrE.alloc _ _ _
          have tm7 : TmB W7 W6.heap.size t := by rw [← hW7]; exact TmB.new W6 t
          have rd7 : RdB W7 b s jj d := by rw [← hW7]; exact rd6.alloc _
          have q7 := q6.keep fa hgb1
          have F7 := F6.trans fa
          have p7 := p6.keep fa hgb
          have hgg : g4 < W6.heap.size := pb6.cells.2.2.2.2.2
          obtain ⟨g7, hg7⟩ : ∃ g7, W6.heap.size = g7 := ⟨_, rfl⟩
          rw [hg7] at tm7 hgg
          have hg7b : g7 ≠ b := by omega
          have hrp := repeater_any b s jj d W7 rd7 (by rw [← HSL.out]; exact hj1) hs
          obtain ⟨rp, hrpe⟩ : ∃ rp, repD s.data.toList jj = rp := ⟨_, rfl⟩
          rw [hrpe] at hrp
          obtain ⟨a0, a1, a2, a3, af, al⟩ := pb5.cells
          obtain ⟨b0, b1, b2, bf, bl⟩ := tm6.cells
          have haq : 0 ≤ q'.atoms ∧ q'.atoms ≤ 1000000 := ⟨hat'.1, by omega⟩
          have HB := hide (⟨tm7, q7, F7, p7⟩ : _ ∧ _ ∧ _ ∧ _)
          have HQ := hide (⟨hk1, hj1, hR, haq, hmm, hrpe⟩ : _ ∧ _ ∧ _ ∧ _ ∧ _ ∧ _)
          clear hpb htm hf hp0 hrep HA pb5 tm5 rd5 F5 p5 fs pb6 q6 tm6 rd6 F6 p6 fa tm7 rd7 q7 F7 p7 hk1 hj1 hR hat' haq hmm hrpe hk' hpe' hst' bf hrd f5
          unfold partV
          match rp with
          | none =>
            go_wp2_with fail
            refine hrp.mono ?_
            rintro e w8 ⟨rfl, h8, f8⟩
            obtain ⟨tm7, q7, F7, p7⟩ := HB.out
            have tm8 := tm7.keep f8 hg7b
            obtain ⟨d0, d1, d2, df, dl⟩ := tm8.cells
            have HD := hide (⟨tm8, h8, q7.keep f8 hgb1, F7.trans f8, p7.keep f8 hgb⟩ : _ ∧ _ ∧ _ ∧ _ ∧ _)
            clear tm7 q7 F7 p7 f8 h8 tm8 a0 a1 a2 a3 af al b0 b1 b2 bl hrp hW6 hW7
            unfold timesV
            go_wp2
            go_roundg (2 * k)
            case measure => have := HQ.out.2.2.2.2.1; simp at this; omega
            case rel =>
              obtain ⟨tm8, h8, q8, F8, p8⟩ := HD.out
              obtain ⟨hk1, hj1, hR, haq, hmm, hrpe⟩ := HQ.out
              have fs := set3_fr w8 g7 ⟨0, 0, false⟩
              have q9 := PtB.own (t := 103) q8 tm8 (by decide) fs (by omega)
              have t9 := tm8.set3 ⟨0, 0, false⟩
              have h9 := h8.own fs hg7b
              have F9 := F8.own (by omega) fs
              have p9 := p8.keep fs (by omega)
              have y9 : ReadyR s.data.toList R k q' jj ⟨0, 0, false⟩ false := ready_none hR hk1 hj1 haq hrpe
              exact ⟨g7, ⟨0, 0, false⟩, false, k, jj, q', rfl, rfl, rfl, hgg, q9, t9, h9, F9, p9, y9⟩
          | some (.bad r) =>
            go_wp2_with fail
            refine hrp.mono ?_
            rintro e w8 ⟨⟨x, rfl⟩, f8⟩
            refine ⟨rfl, ?_⟩
            obtain ⟨hk1, hj1, hR, haq, hmm, hrpe⟩ := HQ.out
            rw [← HO.out, ready_bad hR hk1 hrpe]
            exact ⟨⟨_, rfl⟩, HB.out.2.2.1.trans f8⟩
          | some (.ok t' j') =>
            go_wp2_with fail
            refine hrp.mono ?_
            rintro e w8 ⟨rfl, h8, f8⟩
            obtain ⟨tm7, q7, F7, p7⟩ := HB.out
            have tm8 := tm7.keep f8 hg7b
            obtain ⟨d0, d1, d2, df, dl⟩ := tm8.cells
            have HD := hide (⟨tm8, h8, q7.keep f8 hgb1, F7.trans f8, p7.keep f8 hgb⟩ : _ ∧ _ ∧ _ ∧ _ ∧ _)
            clear tm7 q7 F7 p7 f8 h8 tm8 a0 a1 a2 a3 af al b0 b1 b2 bl hrp hW6 hW7
            unfold timesV
            go_wp2
            go_roundg (2 * (k - 1) + 1)
            case measure => have h1 := HQ.out.2.2.2.2.1; have h2 := (ready_ok HQ.out.2.2.1 HQ.out.1 HQ.out.2.2.2.1 HQ.out.2.2.2.2.2).1; simp at h1; omega
            case rel =>
              obtain ⟨tm8, h8, q8, F8, p8⟩ := HD.out
              obtain ⟨hk1, hj1, hR, haq, hmm, hrpe⟩ := HQ.out
              have fs := set3_fr w8 g7 t'
              have q9 := PtB.own (t := 103) q8 tm8 (by decide) fs (by omega)
              have t9 := tm8.set3 t'
              have h9 := h8.own fs hg7b
              have F9 := F8.own (by omega) fs
              have p9 := p8.keep fs (by omega)
              have y9 := (ready_ok hR hk1 haq hrpe).2.2
              exact ⟨g7, t', true, k - 1, j', q', rfl, rfl, rfl, hgg, q9, t9, h9, F9, p9, y9⟩
        | false =>
          have hR : R = .ok q jj := hrdy.2.2.2.2
          obtain ⟨op, st, ka, m, c, ks, hpb, hpe, hst, hkd⟩ := hq
          obtain ⟨a0, a1, a2, a3, af, al⟩ := hpb.cells
          obtain ⟨b0, b1, b2, b3, bf, bl⟩ := hp0.cells
          have hoe := HO.out
          rw [hR] at hoe
          unfold fewD at hoe
          simp only at hoe
          obtain ⟨at_, hate⟩ : ∃ at_, q.atoms = at_ := ⟨_, rfl⟩
          have hg04 : w.heap.size ≠ g4 := by omega
          by_cases hmany : 1000 < q.atoms
          · rw [if_pos hmany] at hoe
            have HA := hide (⟨hoe, hf⟩ : _ ∧ _)
            clear hoe hf hp0 hrd htm hpb hpe hkd hR hmm hrdy
            rw [hate] at a3 hmany
            clear hate
            go_wp2_with (go_at_call 19; refine (throw_any _ _ _).mono ?_; rintro e w5 ⟨rfl, hw⟩; rw [hw]; clear hw)
            refine ⟨rfl, ?_⟩
            rw [← HA.out.1]
            exact ⟨⟨_, rfl⟩, HA.out.2⟩
          · rw [if_neg hmany] at hoe
            have hm2 : ¬ (1000 < at_) := by rw [← hate]; exact hmany
            rw [hate] at a3
            have HA := hide (⟨hoe, hf, hp0, hrd, hpe, hkd, hate⟩ : _ ∧ _ ∧ _ ∧ _ ∧ _ ∧ _ ∧ _)
            clear hoe hf hp0 hrd htm hpb hpe hkd hR hmm hrdy hate hmany
            go_wp2
            obtain ⟨hoe, hf, hp0, hrd, hpe, hkd, rfl⟩ := HA.out
            exact pc_ret rfl rfl rfl hp0 hpe hst hkd hrd hf hgb (Nat.le_refl _) hoe.symm
end Go.Proofs.YtdlljlmgoiobpaaGreatDoor
/- Rows of parts. -/
namespace Go.Proofs.YtdlljlmgoiobpaaGreatDoor
open Go.RowKit Go.Maps
theorem Tryz.info42 : (Tryz.prog.info? 42).map (fun i => (i.zero, i.size, i.bytes)) = some (some (.agg #[.int .i64 0, .string ⟨#[]⟩, .slice none 0 0, .int .i64 0]), 4, 56) := by kernel_rfl
theorem Tryz.underlying91' : Tryz.prog.underlying 91 = some (.slice 42) := by kernel_rfl
/-- The cells of a row of parts. -/
def PRow (b : Nat) (W : World) (xs : List Value) (ps : List PtD) : Prop := ∀ (i : Nat) (p : PtD), ps[i]? = some p → ∃ (op : Int) (st : ByteArray) (ka : Option Addr) (m c : Nat) (ks : List ExprD), p.e = .mk op st.data.toList ks ∧ st.size ≤ 1000000000 ∧ xs[i * 4]? = some (.int .i64 op) ∧ xs[i * 4 + 1]? = some (.string st) ∧ xs[i * 4 + 2]? = some (.slice ka m c) ∧ xs[i * 4 + 3]? = some (.int .i64 p.atoms) ∧ KidE b W ka m c ks
theorem PRow.keep {b : Nat} {W W' : World} {xs : List Value} {ps : List PtD} (h : PRow b W xs ps) (hf : FrE b W W') : PRow b W' xs ps := by
  intro i p hi
  obtain ⟨op, st, ka, m, c, ks, he, hs, x0, x1, x2, x3, hk⟩ := h i p hi
  exact ⟨op, st, ka, m, c, ks, he, hs, x0, x1, x2, x3, hk.keep hf⟩
theorem PRow.own {b x t : Nat} {W W' : World} {xs : List Value} {ps : List PtD} {a : Array Value} {y : Nat × Nat} (h : PRow b W xs ps) (hx : W.heap[x]? = some (.cells a t y)) (ht : t ≠ 24) (hf : FrE x W W') : PRow b W' xs ps := by
  intro i p hi
  obtain ⟨op, st, ka, m, c, ks, he, hs, x0, x1, x2, x3, hk⟩ := h i p hi
  exact ⟨op, st, ka, m, c, ks, he, hs, x0, x1, x2, x3, hk.own hx ht hf⟩
theorem PRow.snoc {b : Nat} {W : World} {xs : List Value} {ps : List PtD} {p : PtD} {op : Int} {st : ByteArray} {ka : Option Addr} {m c : Nat} {ks : List ExprD} (h : PRow b W xs ps) (hl : xs.length = ps.length * 4) (he : p.e = .mk op st.data.toList ks) (hs : st.size ≤ 1000000000) (hk : KidE b W ka m c ks) : PRow b W (xs ++ [.int .i64 op, .string st, .slice ka m c, .int .i64 p.atoms]) (ps ++ [p]) := by
  intro i q hi
  by_cases hlt : i < ps.length
  · rw [List.getElem?_append_left hlt] at hi
    obtain ⟨op, st, ka, m, c, ks, he, hs, x0, x1, x2, x3, hk⟩ := h i q hi
    exact ⟨op, st, ka, m, c, ks, he, hs, by rw [List.getElem?_append_left (by omega)]; exact x0, by rw [List.getElem?_append_left (by omega)]; exact x1, by rw [List.getElem?_append_left (by omega)]; exact x2, by rw [List.getElem?_append_left (by omega)]; exact x3, hk⟩
  · have hie : i = ps.length := by
      have := (List.getElem?_eq_some_iff.1 hi).1
      rw [List.length_append] at this
      simp at this
      omega
    subst hie
    rw [List.getElem?_append_right (Nat.le_refl _), Nat.sub_self] at hi
    cases hi
    refine ⟨op, st, ka, m, c, ks, he, hs, ?_, ?_, ?_, ?_, hk⟩
    · rw [List.getElem?_append_right (by omega), show ps.length * 4 - xs.length = 0 by omega]; rfl
    · rw [List.getElem?_append_right (by omega), show ps.length * 4 + 1 - xs.length = 1 by omega]; rfl
    · rw [List.getElem?_append_right (by omega), show ps.length * 4 + 2 - xs.length = 2 by omega]; rfl
    · rw [List.getElem?_append_right (by omega), show ps.length * 4 + 3 - xs.length = 3 by omega]; rfl
theorem own4_cell {B t n g c : Nat} {W : World} {xs : List Value} (h : W.ownsRow B t 4 (.slice (some ⟨g, 0, none⟩) n c) n xs) {i : Nat} {u : Value} (hu : xs[i]? = some u) : W.cell? ⟨g, i, none⟩ = some u := by
  rcases h.2 with ⟨e, _⟩ | ⟨g', c', cur, e, _, hg, _, _, _, hct⟩
  · cases e
  · cases e
    rw [cell_of_row _ _ _ _ _ _ hg]
    rw [← hct, List.getElem?_take] at hu
    split at hu
    · rw [Array.getElem?_toList] at hu
      exact hu
    · cases hu
theorem own4_block {B t n g c : Nat} {W : World} {xs : List Value} (h : W.ownsRow B t 4 (.slice (some ⟨g, 0, none⟩) n c) n xs) : B ≤ g ∧ n ≤ c ∧ ∃ cur, W.heap[g]? = some (.cells cur t (0, 0)) := by
  rcases h.2 with ⟨e, _⟩ | ⟨g', c', cur, e, hb, hg, hc, _⟩
  · cases e
  · cases e; exact ⟨hb, hc, cur, hg⟩
theorem row4_stay {B t n : Nat} {W W' : World} {v : Value} {xs : List Value} (h : W.ownsRow B t 4 v n xs) (hk : ∀ k, v.ownBlock = some k → W'.heap[k]? = W.heap[k]?) : W'.ownsRow B t 4 v n xs := by
  refine ⟨h.1, ?_⟩
  rcases h.2 with ⟨e, e2⟩ | ⟨g', c', cur, e, hb, hg, r⟩
  · exact .inl ⟨e, e2⟩
  · exact .inr ⟨g', c', cur, e, hb, by rw [hk g' (by rw [e]; rfl)]; exact hg, r⟩
/-- A row of parts that is the call's own. -/
structure PsR (b B : Nat) (W : World) (g n c : Nat) (ps : List PtD) : Prop where
  own : ∃ xs, W.ownsRow B 42 4 (.slice (some ⟨g, 0, none⟩) n c) n xs ∧ PRow b W xs ps
  len : n = ps.length
theorem PsR.keep {b B g n c : Nat} {W W' : World} {ps : List PtD} (h : PsR b B W g n c ps) (hf : FrE b W W') (hb : b < B) : PsR b B W' g n c ps := by
  obtain ⟨⟨xs, ho, hr⟩, hl⟩ := h
  obtain ⟨hB, hc, cur, hg⟩ := own4_block ho
  refine ⟨⟨xs, row4_stay ho (fun k hk => ?_), hr.keep hf⟩, hl⟩
  cases hk
  exact hf.block g (Array.getElem?_eq_some_iff.1 hg).1 (by omega)
theorem PsR.ps {b B g n c : Nat} {W : World} {ps : List PtD} (h : PsR b B W g n c ps) (hb : b < B) : PsE b W g ps := by
  obtain ⟨⟨xs, ho, hr⟩, hl⟩ := h
  obtain ⟨hB, hc, cur, hg⟩ := own4_block ho
  intro i p hi
  obtain ⟨op, st, ka, m, c, ks, he, hs, x0, x1, x2, x3, hk⟩ := hr i p hi
  exact ⟨op, st, ka, m, c, ks, he, hs, (Array.getElem?_eq_some_iff.1 hg).1, by omega, own4_cell ho x0, own4_cell ho x1, own4_cell ho x2, own4_cell ho x3, hk⟩
theorem PsR.cap {b B g n c : Nat} {W : World} {ps : List PtD} (h : PsR b B W g n c ps) : ps.length ≤ c ∧ B ≤ g ∧ g < W.heap.size := by
  obtain ⟨⟨xs, ho, hr⟩, hl⟩ := h
  obtain ⟨hB, hc, cur, hg⟩ := own4_block ho
  exact ⟨by omega, hB, (Array.getElem?_eq_some_iff.1 hg).1⟩
/-- The first one. -/
theorem psr_new {b B : Nat} {W : World} {p : PtD} {op : Int} {st : ByteArray} {ka : Option Addr} {m c : Nat} {ks : List ExprD} (hB : B ≤ W.heap.size) (he : p.e = .mk op st.data.toList ks) (hs : st.size ≤ 1000000000) (hk : KidE b W ka m c ks) : PsR b B (W.alloc (.cells #[.int .i64 op, .string st, .slice ka m c, .int .i64 p.atoms] 42)) W.heap.size 1 1 [p] := by
  refine ⟨⟨[.int .i64 op, .string st, .slice ka m c, .int .i64 p.atoms], ⟨rfl, .inr ⟨W.heap.size, 1, _, rfl, hB, World.alloc_heap_new W _, Nat.le_refl _, by unfold maxLen; omega, rfl, rfl⟩⟩, ?_⟩, rfl⟩
  exact PRow.snoc (xs := []) (ps := []) (fun i p hi => by simp at hi) rfl he hs (hk.keep (FrE.alloc b _ _))
theorem news4 (W : World) (a b c d : Value) (t : TypeId) : ∀ (j : Nat) (r : Value), [a, b, c, d][j]? = some r → (W.alloc (.cells #[a, b, c, d] t)).cell? ((⟨W.heap.size, 0, none⟩ : Addr).add j) = some r :=
  World.news_of_block (cs := #[a, b, c, d]) (World.alloc_heap_new W _)
/-- What an append leaves. -/
theorem psr_app {b B g n c g6 c6 : Nat} {W w6 : World} {ps : List PtD} {p : PtD} {op : Int} {st : ByteArray} {ka : Option Addr} {m k : Nat} {ks : List ExprD} {xs : List Value} {o : Obj} (hown : W.ownsRow B 42 4 (.slice (some ⟨g, 0, none⟩) n c) n xs) (hrow : PRow b W xs ps) (hn : n = ps.length) (he : p.e = .mk op st.data.toList ks) (hs : st.size ≤ 1000000000) (hk : KidE b W ka m k ks)
    (h6 : w6.ownsRow B 42 4 (.slice (some ⟨g6, 0, none⟩) (n + 1) c6) (n + 1) (xs ++ [.int .i64 op, .string st, .slice ka m k, .int .i64 p.atoms])) (hg6 : (W.alloc o).grownBy w6 (Value.slice (some ⟨g, 0, none⟩) n c).ownBlock) : PsR b B w6 g6 (n + 1) c6 (ps ++ [p]) ∧ FrE g W w6 := by
  obtain ⟨hB, hc, cur, hg⟩ := own4_block hown
  have hl := hown.1
  have hf : FrE g W w6 := by
    refine ⟨hg6.os, hg6.tape, hg6.output, ?_, fun k hk hne => ?_⟩
    · have := hg6.size
      rw [World.size_alloc] at this
      omega
    · exact (hg6.block k (by rw [World.size_alloc]; omega) (fun e => hne (by cases e; rfl))).trans (Below.heap_alloc _ _ _ hk)
  refine ⟨⟨⟨_, h6, (hrow.own hg (by decide) hf).snoc (by omega) he hs (hk.own hg (by decide) hf)⟩, by rw [List.length_append, hn]; rfl⟩, hf⟩
end Go.Proofs.YtdlljlmgoiobpaaGreatDoor
