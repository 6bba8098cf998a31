/- A part written out. -/
import Derived.Test.YtdlljlmgoiobpaaGreatDoorErP
import Derived.Deep.Cut
import Derived.Test.YtdlljlmgoiobpaaGreatDoorER
namespace Go.Proofs.YtdlljlmgoiobpaaGreatDoor
open Go.RowKit Go.Maps
theorem step_append_own {P : Program} {w : World} {ops : Array Oper} {o : Oper} {a : Act} {K : Act → World → Prop} {Q : Exit → Act → World → Prop} {E : Prop} (hgd : o.guard = none) (s x : Operand) (t : TypeId)
    (ho : o.op = .call { callee := .builtin .append, args := #[s, x], argTypes := #[t, t] })
    (base : Nat) (e : TypeId) (i : TypeInfo) (z : Value) (size bytes : Nat) (ht : P.underlying t = some (.slice e)) (hi : P.info? e = some i) (hz : i.zero = some z)
    (hsize : i.size = size) (hby : i.bytes = bytes) (hzs : z.cells.size = size) (hsz : 0 < size)
    (v : Value) (n : Nat) (xs : List Value) (hs : a.eval s = v) (hown : w.ownsRow base e size v n xs)
    (ad : Addr) (m c : Nat) (news : List Value) (hx : a.eval x = .slice (some ad) m c) (hl : news.length = m * size) (hnews : ∀ j u, news[j]? = some u → w.cell? (ad.add j) = some u) (h1 : ∀ u ∈ news, u.oneCell' = true)
    (h63 : n + m ≤ maxLen) (hbytes : (n + m) * bytes ≤ 140737488355328) (hbase : base ≤ w.heap.size)
    (h : ∀ v' w', w'.ownsRow base e size v' (n + m) (xs ++ news) → w.grownBy w' v.ownBlock → (v' = .slice none 0 0 ↔ v = .slice none 0 0 ∧ m = 0) → K (a.put o.dst v') w') :
    if Region.wanted o (yielded ops a.tmps) = true then Oper.wp P o a w K Q else E := by
  have hw : Region.wanted o (yielded ops a.tmps) = true := by simp [Region.wanted, hgd]
  rw [if_pos hw]
  exact wp_append_own w s x t ho base e i z size bytes ht hi hz hsize hby hzs hsz v n xs hs hown ad m c news hx hl hnews h1 h63 hbytes hbase h
theorem KRowE.keep {b : Nat} {W W' : World} {xs : List Value} {ks : List ExprD} (h : KRowE b W xs ks) (hf : FrE b W W') : KRowE b W' xs ks := by
  intro i k hi
  obtain ⟨op, st, ka, m, c, q, he, hs, x0, x1, x2, hk⟩ := h i k hi
  exact ⟨op, st, ka, m, c, q, he, hs, x0, x1, x2, hk.keep hf⟩
theorem krow_rep {b : Nat} {W : World} {op : Int} {st : ByteArray} {ka : Option Addr} {m c : Nat} {ks : List ExprD} (hk : KidE b W ka m c ks) (hs : st.size ≤ 1000000000) : ∀ n : Nat, KRowE b W (repL [.int .i64 op, .string st, .slice ka m c] n) (List.replicate n (.mk op st.data.toList ks))
  | 0 => fun i k hi => by simp at hi
  | n + 1 => by
    rw [repL_add, List.replicate_succ']
    exact (krow_rep hk hs n).snoc (by rw [repL_len rfl, List.length_replicate]) hs hk
theorem KRowE.append {b : Nat} {W : World} {xs ys : List Value} {ks qs : List ExprD} (h : KRowE b W xs ks) (g : KRowE b W ys qs) (hl : xs.length = ks.length * 3) : KRowE b W (xs ++ ys) (ks ++ qs) := by
  intro i k hi
  by_cases hlt : i < ks.length
  · rw [List.getElem?_append_left hlt] at hi
    obtain ⟨op, st, ka, m, c, q, he, hs, x0, x1, x2, hk⟩ := h i k hi
    exact ⟨op, st, ka, m, c, q, he, hs, by rw [List.getElem?_append_left (by omega)]; exact x0, by rw [List.getElem?_append_left (by omega)]; exact x1, by rw [List.getElem?_append_left (by omega)]; exact x2, hk⟩
  · rw [List.getElem?_append_right (by omega)] at hi
    obtain ⟨op, st, ka, m, c, q, he, hs, x0, x1, x2, hk⟩ := g _ k hi
    refine ⟨op, st, ka, m, c, q, he, hs, ?_, ?_, ?_, hk⟩
    · rw [List.getElem?_append_right (by omega), show i * 3 - xs.length = (i - ks.length) * 3 by omega]; exact x0
    · rw [List.getElem?_append_right (by omega), show i * 3 + 1 - xs.length = (i - ks.length) * 3 + 1 by omega]; exact x1
    · rw [List.getElem?_append_right (by omega), show i * 3 + 2 - xs.length = (i - ks.length) * 3 + 2 by omega]; exact x2
theorem own_base {B B' t n : Nat} {W : World} {v : Value} {xs : List Value} (h : W.ownsRow B t 3 v n xs) (hB : B' ≤ B) : W.ownsRow B' t 3 v n xs := by
  refine ⟨h.1, ?_⟩
  rcases h.2 with ⟨e, e2⟩ | ⟨g', c', cur, e, hb, r⟩
  · exact .inl ⟨e, e2⟩
  · exact .inr ⟨g', c', cur, e, Nat.le_trans hB hb, r⟩
theorem fr_below {b B : Nat} {W W' : World} (h : Below B W W') (hB : W.heap.size ≤ B) : FrE b W W' := ⟨h.os, h.tape, h.output, h.size, fun k hk _ => h.block k (Nat.lt_of_lt_of_le hk hB)⟩
theorem one_kid {b g : Nat} {W : World} {op : Int} {st : ByteArray} {ka : Option Addr} {m c : Nat} {ks : List ExprD} (hg : W.heap[g]? = some (.cells #[.int .i64 op, .string st, .slice ka m c] 24 (0, 0))) (hb : b < g) (hs : st.size ≤ 1000000000) (hk : KidE b W ka m c ks) : KidE b W (some ⟨g, 0, none⟩) 1 1 [.mk op st.data.toList ks] := by
  refine .inr ⟨g, rfl, rfl, Nat.le_refl _, fun i k hi => ?_⟩
  have : i = 0 := by
    have := (List.getElem?_eq_some_iff.1 hi).1
    simp at this
    exact this
  subst this
  cases hi
  exact ExE.of ⟨_, _, hg⟩ hb (by simp [World.cell?, hg]) (by simp [World.cell?, hg]) (by simp [World.cell?, hg]) hs hk
theorem fr_grown2 {b B ty n : Nat} {w W w6 : World} {v : Value} {xs : List Value} {P R : Obj} (hf : FrE b w W) (hg : ((W.alloc P).alloc R).grownBy w6 v.ownBlock) (ho : W.ownsRow B ty 3 v n xs) (hB : w.heap.size ≤ B) : FrE b w w6 := by
  have hfs := hf.size
  have hio : ∀ k, v.ownBlock = some k → B ≤ k := fun k hk => by
    rcases ho.2 with ⟨e, _⟩ | ⟨g', c', cur, e, hb, _⟩
    · rw [e] at hk; cases hk
    · rw [e] at hk; cases hk; exact hb
  refine ⟨hg.os.trans hf.os, hg.tape.trans hf.tape, hg.output.trans hf.output, ?_, fun k hk hne => ?_⟩
  · have := hg.size
    rw [World.size_alloc, World.size_alloc] at this
    omega
  · exact (hg.block k (by rw [World.size_alloc, World.size_alloc]; omega) (fun e => by have := hio k e.symm; omega)).trans ((Below.heap_alloc _ _ _ (by rw [World.size_alloc]; omega)).trans ((Below.heap_alloc _ _ _ (by omega)).trans (hf.block k hk hne)))
theorem fr_grown {b B ty n : Nat} {w W w6 : World} {v : Value} {xs : List Value} (hf : FrE b w W) (hg : W.grownBy w6 v.ownBlock) (ho : W.ownsRow B ty 3 v n xs) (hB : w.heap.size ≤ B) : FrE b w w6 := by
  have hfs := hf.size
  have hio : ∀ k, v.ownBlock = some k → B ≤ k := fun k hk => by
    rcases ho.2 with ⟨e, _⟩ | ⟨g', c', cur, e, hb, _⟩
    · rw [e] at hk; cases hk
    · rw [e] at hk; cases hk; exact hb
  refine ⟨hg.os.trans hf.os, hg.tape.trans hf.tape, hg.output.trans hf.output, ?_, fun k hk hne => ?_⟩
  · have := hg.size
    omega
  · exact (hg.block k (by omega) (fun e => by have := hio k e.symm; omega)).trans (hf.block k hk hne)
set_option maxRecDepth 100000 in
set_option maxHeartbeats 2000000 in
theorem repeat_any (b : Nat) (p : PtD) (t : TimesD) (v : Value) (w : World) (hv : PtIs b w p v) (ht : TmOK t) (ha : 0 ≤ p.atoms ∧ p.atoms ≤ 1000000) (hb : b < w.heap.size) :
    Calls Tryz.prog 46 #[v, timesV t] w fun e w' => (∃ v', e = .returned v' ∧ PtIs b w' (repeatD p t) v') ∧ ∀ x, FrE x w w' := by
  obtain ⟨op, st, ka, m, c, ks, rfl, hpe, hst, hk⟩ := hv
  obtain ⟨pe, n⟩ := p
  simp only at hpe ha ⊢
  subst hpe
  obtain ⟨tl, tm, te⟩ := t
  obtain ⟨k, rfl⟩ := Int.eq_ofNat_of_zero_le ht.1
  obtain ⟨t, hte⟩ : ∃ t : TimesD, (⟨(k : Int), tm, te⟩ : TimesD) = t := ⟨_, rfl⟩
  have htl : t.least = (k : Int) := by rw [← hte]
  rw [hte] at ht ⊢
  have HT := hide htl
  clear hte htl
  obtain ⟨RD, hRD⟩ : ∃ RD, repeatD ⟨.mk op st.data.toList ks, n⟩ t = RD := ⟨_, rfl⟩
  rw [hRD]
  have HRD := hide hRD
  clear hRD
  obtain ⟨W0, hW0⟩ : ∃ W0, ((w.alloc (.cells #[.int .i64 op, .string st, .slice ka m c, .int .i64 n] 42)).alloc (.cells #[.int .i64 t.least, .int .i64 t.most, .bool t.endless] 103)).alloc (.cells #[.int .i64 0, .string ⟨#[]⟩, .slice none 0 0, .int .i64 0] 42) = W0 := ⟨_, rfl⟩
  have f0 : ∀ x, FrE x w W0 := by intro x; rw [← hW0]; exact ((FrE.alloc x _ _).trans (FrE.alloc x _ _)).trans (FrE.alloc x _ _)
  have hz0 : W0.heap.size = w.heap.size + 3 := by rw [← hW0]; simp
  have p0 : PaB W0 w.heap.size op st ka m c n := by
    rw [← hW0]
    exact (Below.heap_alloc _ _ _ (by rw [World.size_alloc, World.size_alloc]; omega)).trans ((Below.heap_alloc _ _ _ (by rw [World.size_alloc]; omega)).trans (PaB.new w op st ka m c n))
  have t0 : TmB W0 (w.heap.size + 1) t := by
    rw [← hW0]
    have := TmB.new (w.alloc (.cells #[.int .i64 op, .string st, .slice ka m c, .int .i64 n] 42)) t
    rw [World.size_alloc] at this
    exact (Below.heap_alloc _ _ _ (by simp)).trans this
  have r0 : PaB W0 (w.heap.size + 2) 0 ⟨#[]⟩ none 0 0 0 := by
    rw [← hW0]
    have := PaB.new ((w.alloc (.cells #[.int .i64 op, .string st, .slice ka m c, .int .i64 n] 42)).alloc (.cells #[.int .i64 t.least, .int .i64 t.most, .bool t.endless] 103)) 0 ⟨#[]⟩ none 0 0 0
    rw [World.size_alloc, World.size_alloc] at this
    exact this
  obtain ⟨hcp0, hcp1⟩ := copiesD_bound ht
  obtain ⟨cp, hcp⟩ : ∃ cp, copiesD t = cp := ⟨_, rfl⟩
  rw [hcp] at hcp0 hcp1
  obtain ⟨pr, hpr⟩ : ∃ pr, n * cp = pr := ⟨_, rfl⟩
  have hpr0 : 0 ≤ pr := by rw [← hpr]; exact Int.mul_nonneg ha.1 hcp0
  have hpr1 : pr ≤ 256000000 := by
    rw [← hpr]
    have := Int.mul_le_mul ha.2 hcp1 hcp0 (by omega)
    omega
  have hwr : IntKind.i64.wrap pr = pr := by rw [IntKind.wrap_i64]; omega
  have hccd := copies_any t W0.drew ht.1 ht.2.1
  rw [hcp] at hccd
  have hg0 : w.heap.size < W0.heap.size := by omega
  have hg1 : w.heap.size + 1 < W0.heap.size := by omega
  obtain ⟨a0, a1, a2, a3, af, al⟩ := p0.cells
  obtain ⟨b0, b1, b2, bf, bl⟩ := t0.cells
  have H0 := hide (⟨f0, hz0, p0, t0, r0, hk, ht, ha, hcp⟩ : _ ∧ _ ∧ _ ∧ _ ∧ _ ∧ _ ∧ _ ∧ _ ∧ _)
  have HP := hide (⟨hpr0, hpr1⟩ : _ ∧ _)
  clear f0 hz0 p0 t0 r0 hk ht ha hcp hcp0 hcp1 hpr0 hpr1 af al bf bl
  unfold partV
  unfold timesV at hccd ⊢
  go_enter Tryz.func46, Tryz.ntmps46
  go_upto_region 1 with fail
  clear hW0
  go_cut [5] from 7 (fun av wx => av = .int .i64 (min pr 1001) ∧ PaB wx w.heap.size op st ka m c n ∧ TmB wx (w.heap.size + 1) t ∧ PaB wx (w.heap.size + 2) 0 ⟨#[]⟩ none 0 0 0 ∧ ∀ x, FrE x w wx)
  case first =>
    go_region_with (go_at_call 63; refine hccd.mono ?_; rintro e w1 ⟨rfl, hf⟩; have a3' := ((hf b).cell (j := 3) hg0 (by omega)).trans a3)
    all_goals go_wp2
    all_goals go_meet
    all_goals exact ⟨rfl, PaB.keep (W := W0.drew) H0.out.2.2.1 (hf b) (by omega), TmB.keep (W := W0.drew) H0.out.2.2.2.1 (hf b) (by omega), PaB.keep (W := W0.drew) H0.out.2.2.2.2.1 (hf b) (by omega), fun x => (H0.out.1 x).drew.trans (hf x)⟩
  case rest =>
    obtain ⟨rfl, hp, htm, hr, hf⟩ := hcut
    clear a0 a1 a2 a3 b0 b1 b2 hccd hg0 hg1 hwr
    obtain ⟨az, haz⟩ : ∃ az, min pr 1001 = az := ⟨_, rfl⟩
    rw [haz]
    have hrd : RD = if az = 0 then ⟨.mk 1 [] [], 0⟩ else ⟨.mk 3 [] (kidsD (.mk op st.data.toList ks) t), az⟩ := by
      rw [← HRD.out]
      unfold repeatD
      simp only
      rw [H0.out.2.2.2.2.2.2.2.2, hpr, haz]
    by_cases h0 : az = 0
    · have h0b : (az == 0) = true := by rw [h0]; rfl
      rw [if_pos h0] at hrd
      clear HRD
      subst hrd
      obtain ⟨c0, c1, c2, c3, cf, cl⟩ := hr.cells
      have HR := hide (⟨hr, hf⟩ : _ ∧ _)
      clear hr hf h0 haz hpr HP
      go_wp2
      exact part_at4 rfl rfl rfl (HR.out.1.set4 1 ⟨#[]⟩ none 0 0 0) ⟨⟨_, rfl, 1, ⟨#[]⟩, none, 0, 0, [], rfl, rfl, by decide, .inl ⟨rfl, rfl, rfl, rfl⟩⟩, fun x => (HR.out.2 x).own (by omega) (set4_fr _ _ _ _ _ _ _ _)⟩
    · have h0b : (az == 0) = false := by rw [beq_eq_false_iff_ne]; exact h0
      rw [if_neg h0] at hrd
      clear HRD
      subst hrd
      obtain ⟨a0, a1, a2, a3, af, al⟩ := hp.cells
      obtain ⟨b0, b1, b2, bf, bl⟩ := htm.cells
      rw [HT.out] at b0
      obtain ⟨W1, hW1⟩ : ∃ W1, wc.alloc (.cells #[.int .i64 op, .string st, .slice ka m c] 24) = W1 := ⟨_, rfl⟩
      have hz1 : W1.heap.size = wc.heap.size + 1 := by rw [← hW1]; simp
      have hsr := srep_any wc.heap.size [.int .i64 op, .string st, .slice ka m c] rfl (by simp [Value.oneCell']) k (by have h1 := H0.out.2.2.2.2.2.2.1.2.1; rw [HT.out] at h1; omega) W1 (by omega) (by
        intro j v hv
        rw [← hW1]
        have := World.news_of_block (World.alloc_heap_new wc (.cells #[.int .i64 op, .string st, .slice ka m c] 24)) j v hv
        rwa [add_zero_at] at this)
      have f1 : ∀ x, FrE x wc W1 := by intro x; rw [← hW1]; exact FrE.alloc _ _ _
      have b0' := ((f1 b).cell (j := 0) bl (by omega)).trans b0
      have HA := hide (⟨hp, htm, hr, hf, f1, hz1⟩ : _ ∧ _ ∧ _ ∧ _ ∧ _ ∧ _)
      clear hp htm hr hf h0 haz hpr HP af bf f1 hz1
      go_wp2_with fail
      refine hsr.mono ?_
      rintro e w2 ⟨rfl, hown, hbel⟩
      have f12 : ∀ x, FrE x W1 w2 := fun x => fr_below hbel (Nat.le_refl _)
      obtain ⟨hp, htm, hr, hf, f1, hz1⟩ := HA.out
      have hb1 : b < wc.heap.size := by have := (hf b).size; omega
      have F2 : ∀ x, FrE x w w2 := fun x => ((hf x).trans (f1 x)).trans (f12 x)
      have p2 := (hp.keep (f1 b) (by omega)).keep (f12 b) (by omega)
      have t2 := (htm.keep (f1 b) (by omega)).keep (f12 b) (by omega)
      have r2 := (hr.keep (f1 b) (by omega)).keep (f12 b) (by omega)
      have hcs := (hf b).size
      obtain ⟨g2, hg2⟩ : ∃ g2, W1.heap.size = g2 := ⟨_, rfl⟩
      rw [hg2] at hown ⊢
      have hg2w : w.heap.size + 3 ≤ g2 := by have := r2.cells.2.2.2.2.2; have := hr.cells.2.2.2.2.2; omega
      have own2 : w2.ownsRow (w.heap.size + 3) 24 3 (.slice (some ⟨g2, 0, none⟩) k k) k (repL [.int .i64 op, .string st, .slice ka m c] k) := own_base hown hg2w
      have hk2 := H0.out.2.2.2.2.2.1.keep (F2 b)
      have hsz2 : w.heap.size + 3 ≤ w2.heap.size := by have := r2.cells.2.2.2.2.2; omega
      have kr2 := krow_rep (op := op) hk2 hst k
      clear hp htm hr hf f1 hz1 f12 hbel hsr hW1 a0 a1 a2 a3 b0 b0' b1 b2 al bl hg2 hown hcs HA hb1
      obtain ⟨a0, a1, a2, a3, af, al⟩ := p2.cells
      obtain ⟨b0, b1, b2, bf, bl⟩ := t2.cells
      have HA := hide (⟨F2, p2, t2, r2, own2, hk2, kr2⟩ : _ ∧ _ ∧ _ ∧ _ ∧ _ ∧ _ ∧ _)
      clear F2 p2 t2 r2 own2 hk2 kr2 af bf
      go_upto_if 24 with fail
      go_cut [1, 6] from 7 (fun _ kv wx => ∃ (ka' : Option Addr) (n' c' : Nat) (xs : List Value), kv = .slice ka' n' c' ∧ n' = (kidsD (.mk op st.data.toList ks) t).length ∧ wx.ownsRow (w.heap.size + 3) 24 3 (.slice ka' n' c') n' xs ∧ KRowE b wx xs (kidsD (.mk op st.data.toList ks) t) ∧ PaB wx (w.heap.size + 2) 0 ⟨#[]⟩ none 0 0 0 ∧ ∀ x, FrE x w wx)
      case first =>
        have hk255 : (k : Int) ≤ 255 := by have h1 := H0.out.2.2.2.2.2.2.1.2.1; rw [HT.out] at h1; exact h1
        obtain ⟨i0, hi0, z0, z1, z2⟩ := info_parts Tryz.info24
        have HOWN := hide HA.out.2.2.2.2.1
        cases hte : t.endless with
        | true =>
          have hkd : kidsD (.mk op st.data.toList ks) t = List.replicate k (.mk op st.data.toList ks) ++ [.mk 5 [] [.mk op st.data.toList ks]] := by
            unfold kidsD
            rw [hte, if_pos rfl, HT.out]
            rfl
          rw [hte] at b2
          have HK := hide hkd
          clear hkd
          go_wp2_with (at_builtin; refine wpList_append_lies _ rfl (.tmp 25) (.tmp 30) 22 rfl (w.heap.size + 3) 24 i0 _ 3 48 Tryz.underlying22' hi0 z0 z1 z2 rfl (by decide) (.slice (some ⟨g2, 0, none⟩) k k) k (repL [.int .i64 op, .string st, .slice ka m c] k) rfl ((HOWN.out.alloc _).alloc _) ⟨w2.heap.size + 1, 0, none⟩ 1 1 [.int .i64 5, .string ⟨#[]⟩, .slice (some ⟨w2.heap.size, 0, none⟩) 1 1] rfl rfl (news3 _ _ (by rw [World.size_alloc]) _ _ _ _) (by simp [Value.oneCell']) (by decide) (by unfold maxLen; omega) (by omega) (by rw [World.size_alloc, World.size_alloc]; omega) _ rfl ?_; intro g6 c6 w6 hown6 hg6 hat6 hlt6; have HZ := hide (⟨hown6, hg6⟩ : _ ∧ _); clear hown6 hg6 hat6)
          go_meet
          case rel =>
            obtain ⟨hown6, hg6⟩ := HZ.out
            have f6 : ∀ x, FrE x w w6 := fun x => fr_grown2 (HA.out.1 x) hg6 HOWN.out (by omega)
            have hk6 := H0.out.2.2.2.2.2.1.keep (f6 b)
            have hrow : w6.heap[w2.heap.size]? = some (.cells #[.int .i64 op, .string st, .slice ka m c] 24 (0, 0)) :=
              (hg6.block w2.heap.size (by rw [World.size_alloc, World.size_alloc]; omega) (fun e => by have := (own_in HOWN.out e.symm).2; omega)).trans ((Below.heap_alloc _ _ _ (by rw [World.size_alloc]; omega)).trans (World.alloc_heap_new w2 _))
            refine ⟨some ⟨g6, 0, none⟩, k + 1, c6, _, rfl, ?_, hown6, ?_, HA.out.2.2.2.1.of_grown hg6 HOWN.out (by omega), f6⟩
            · rw [HK.out]; simp
            · rw [HK.out]
              exact (krow_rep (op := op) hk6 hst k).snoc (op := 5) (st := ⟨#[]⟩) (by rw [repL_len rfl, List.length_replicate]) (by decide) (one_kid hrow (by omega) hst hk6)
        | false =>
          obtain ⟨htm0, htm1⟩ : t.least ≤ t.most ∧ t.most ≤ 255 := by
            rcases H0.out.2.2.2.2.2.2.1.2.2 with h | h
            · rw [hte] at h; cases h
            · exact h
          rw [HT.out] at htm0
          obtain ⟨q, hq⟩ := Int.eq_ofNat_of_zero_le (a := t.most - (k : Int)) (by omega)
          have hkd : kidsD (.mk op st.data.toList ks) t = List.replicate k (.mk op st.data.toList ks) ++ List.replicate q (optD (.mk op st.data.toList ks)) := by
            unfold kidsD
            rw [hte, if_neg (by decide), HT.out, hq]
            rfl
          rw [hte] at b2
          rw [HT.out] at b0
          have HK := hide hkd
          clear hkd
          have hopt := option_any op st ka m c n w2.drew
          unfold partV at hopt
          have hwq : IntKind.i64.wrap (q : Int) = (q : Int) := by rw [IntKind.wrap_i64]; omega
          go_wp2
          refine (fun (KEY : ∀ (v5 : Value) (g3 : Nat) (w3 w4 w5 : World), (w2.heap.size ≤ g3 ∧ optB w3 g3 op st ka m c ∧ (∀ x, FrE x w2.drew w3) ∧ Below (w3.heap.size + 1) (w3.alloc (.cells #[.int .i64 4, .string ⟨#[]⟩, .slice (some ⟨g3, 0, none⟩) 2 2] 24)) w4 ∧ w4.ownsRow (w.heap.size + 3) 24 3 (.slice (some ⟨g2, 0, none⟩) k k) k (repL [.int .i64 op, .string st, .slice ka m c] k) ∧ w5.ownsRow (w.heap.size + 3) 24 3 v5 (k + q) (repL [.int .i64 op, .string st, .slice ka m c] k ++ repL [.int .i64 4, .string ⟨#[]⟩, .slice (some ⟨g3, 0, none⟩) 2 2] q) ∧ w4.grownBy w5 (Value.slice (some ⟨g2, 0, none⟩) k k).ownBlock) → (?G2 : Value → Nat → World → World → World → Prop) v5 g3 w3 w4 w5) => ?main2) ?key2
          case main2 =>
            go_region_law (first
              | (refine step_calls rfl 65 #[.tmp 33] #[42] rfl #[.agg #[.int .i64 op, .string st, .slice ka m c, .int .i64 n]] (by simp only [List.map_toArray, List.map_cons, List.map_nil]; rfl) (enters_of Tryz.func65 (by kernel_rfl) rfl) hopt ?_; rintro e w3 ⟨g3, rfl, hg3, hk3, hf3⟩; refine ⟨_, rfl, ?_⟩; have b03 := ((hf3 b).cell (j := 0) bl (by omega)).trans b0; have b13 := ((hf3 b).cell (j := 1) bl (by omega)).trans b1; have bl3 : w.heap.size + 1 < w3.heap.size := Nat.lt_of_lt_of_le bl (hf3 b).size; have hs3 := srep_any w3.heap.size [.int .i64 4, .string ⟨#[]⟩, .slice (some ⟨g3, 0, none⟩) 2 2] rfl (by simp [Value.oneCell']) q (by omega) (w3.alloc (.cells #[.int .i64 4, .string ⟨#[]⟩, .slice (some ⟨g3, 0, none⟩) 2 2] 24)) (by rw [World.size_alloc]; omega) (fun j v hv => (add_zero_at w3.heap.size j) ▸ (news3 w3 w3.heap.size rfl _ _ _ 24 j v hv)); rw [World.size_alloc] at hs3)
              | (refine step_calls rfl 64 #[.tmp 35, .tmp 40] #[22, 3] rfl #[.slice (some ⟨w3.heap.size, 0, none⟩) 1 1, .int .i64 (q : Int)] (by simp only [List.map_toArray, List.map_cons, List.map_nil]; rfl) (enters_of Tryz.func64 (by kernel_rfl) rfl) hs3 ?_; rintro e w4 ⟨rfl, hown4, hb4⟩; refine ⟨_, rfl, ?_⟩; have own4 : w4.ownsRow (w.heap.size + 3) 24 3 (.slice (some ⟨g2, 0, none⟩) k k) k (repL [.int .i64 op, .string st, .slice ka m c] k) := row_stay HOWN.out (fun x hx => by have h1 := own_in HOWN.out hx; exact (hb4.block x (Nat.lt_of_lt_of_le h1.2 (Nat.le_trans (hf3 b).size (Nat.le_succ _)))).trans ((Below.heap_alloc _ _ _ (Nat.lt_of_lt_of_le h1.2 (hf3 b).size)).trans ((hf3 b).block x h1.2 (by omega)))))
              | (refine step_append_own rfl (.tmp 32) (.tmp 41) 22 rfl (w.heap.size + 3) 24 i0 _ 3 48 Tryz.underlying22' hi0 z0 z1 z2 rfl (by decide) (.slice (some ⟨g2, 0, none⟩) k k) k (repL [.int .i64 op, .string st, .slice ka m c] k) rfl own4 ⟨w3.heap.size + 1, 0, none⟩ q q (repL [.int .i64 4, .string ⟨#[]⟩, .slice (some ⟨g3, 0, none⟩) 2 2] q) rfl (repL_len rfl q) (fun j u hu => (add_zero_at (w3.heap.size + 1) j) ▸ own3_cell hown4 hu) (repL_one (by simp [Value.oneCell']) q) (by unfold maxLen; omega) (by omega) (by have h1 := hb4.size; rw [World.size_alloc] at h1; have h2 : w2.heap.size ≤ w3.heap.size := (hf3 b).size; omega) ?_; intro v5 w5 hown5 hg5 hiff5))
            all_goals exact KEY v5 g3 w3 w4 w5 ⟨hg3, hk3, hf3, hb4, own4, hown5, hg5⟩
          case key2 =>
            rintro v5 g3 w3 w4 w5 ⟨hg3, hk3, hf3, hb4, own4, hown5, hg5⟩
            have F3 : ∀ x, FrE x w w3 := fun x => (HA.out.1 x).drew.trans (hf3 x)
            have F4 : ∀ x, FrE x w w4 := fun x => ((F3 x).trans (FrE.alloc x _ _)).trans (fr_below hb4 (by rw [World.size_alloc]; omega))
            have f34 : FrE b w3 w4 := (FrE.alloc b _ _).trans (fr_below hb4 (by rw [World.size_alloc]; omega))
            have F5 : ∀ x, FrE x w w5 := fun x => fr_grown (F4 x) hg5 own4 (by omega)
            obtain ⟨ka5, n5, c5, rfl, hn5⟩ : ∃ (ka5 : Option Addr) (n5 c5 : Nat), v5 = .slice ka5 n5 c5 ∧ n5 = k + q := by
              rcases hown5.2 with ⟨e, e2⟩ | ⟨g', c', cur, e, _⟩
              · exact ⟨none, 0, 0, e, e2.symm⟩
              · exact ⟨_, _, _, e, rfl⟩
            subst hn5
            go_wp2
            go_meet
            case rel =>
              have hk5 := H0.out.2.2.2.2.2.1.keep (F5 b)
              refine ⟨ka5, k + q, c5, _, rfl, ?_, hown5, ?_, ?_, F5⟩
              · rw [HK.out]; simp
              · rw [HK.out]
                refine (krow_rep (op := op) hk5 hst k).append (krow_rep (op := 4) (st := ⟨#[]⟩) ?_ (by decide) q) (by rw [repL_len rfl, List.length_replicate])
                have hl3 := (Array.getElem?_eq_some_iff.1 hk3).1
                have e5 : w5.heap[g3]? = w3.heap[g3]? := (hg5.block g3 (Nat.lt_of_lt_of_le hl3 f34.size) (fun e => by have := (own_in HOWN.out e.symm).2; omega)).trans (f34.block g3 hl3 (by omega))
                exact opt_kids (e5.trans hk3) (by omega) hst hk5
              · have r4 : PaB w4 (w.heap.size + 2) 0 ⟨#[]⟩ none 0 0 0 := (PaB.keep (W := w2.drew) HA.out.2.2.2.1 (hf3 b) (by omega)).keep f34 (by omega)
                exact (hg5.block _ r4.cells.2.2.2.2.2 (fun e => by have := (own_in own4 e.symm).1; omega)).trans r4
      case rest =>
        obtain ⟨ka', n', c', xs, rfl, hn', hown, hkr, hr, hf⟩ := hcut
        clear a0 a1 a2 a3 b0 b1 b2 al bl HA
        obtain ⟨c0, c1, c2, c3, cf, cl⟩ := hr.cells
        have HZ := hide (⟨hn', hown, hkr, hr, hf⟩ : _ ∧ _ ∧ _ ∧ _ ∧ _)
        clear hn' hown hkr hr hf
        go_wp2
        obtain ⟨hn', hown, hkr, hr, hf⟩ := HZ.out
        have fs := set4_fr wc (w.heap.size + 2) 3 ⟨#[]⟩ ka' n' c' az
        have F : ∀ x, FrE x w _ := fun x => (hf x).own (by omega) fs
        exact part_at4 rfl rfl rfl (hr.set4 3 ⟨#[]⟩ ka' n' c' az) ⟨⟨_, rfl, 3, ⟨#[]⟩, ka', n', c', _, rfl, rfl, by decide, KidE.own (hkr.kids hown hn' (FrE.refl _ _) (by omega)) hr (by decide) fs⟩, F⟩
end Go.Proofs.YtdlljlmgoiobpaaGreatDoor
