import Derived.Test.YtfemboojdablhaaGreatDoorMi29
namespace Go.Proofs.YtfemboojdablhaaGreatDoor.Tre
open Go.RowKit
theorem seven_new (W : World) (N : Nat) (hN : W.heap.size = N) (a b c d e f k : Value) : ∀ (j : Nat) (u : Value), [a, b, c, d, e, f, k][j]? = some u → (W.alloc (.cells #[a, b, c, d, e, f, k] 42)).cell? ((⟨N, 0, none⟩ : Addr).add j) = some u := by
  intro j u hj
  subst hN
  rw [addr_add]
  rw [World.cell?_alloc_at _ _ _ _ rfl]
  simpa using hj
theorem box_cells {W : World} {b : Nat} {x0 x1 x2 x3 x4 x5 x6 : Value} (h : W.heap[b]? = some (.cells #[x0, x1, x2, x3, x4, x5, x6] 42)) :
    W.cell? ⟨b, 0, none⟩ = some x0 ∧ W.cell? ⟨b, 1, none⟩ = some x1 ∧ W.cell? ⟨b, 2, none⟩ = some x2 ∧ W.cell? ⟨b, 3, none⟩ = some x3 ∧ W.cell? ⟨b, 4, none⟩ = some x4 ∧ W.cell? ⟨b, 5, none⟩ = some x5 ∧ W.cell? ⟨b, 6, none⟩ = some x6 ∧ ∀ j, W.frozen? ⟨b, j, none⟩ = false := by
  simp [World.cell?, World.frozen?, h]
theorem put_owned {B b g cap g5 cap5 a : Nat} {l : List (NodeD × Value)} {nd : NodeD} {w1 w5 : World} {x0 x1 x2 x3 x4 x5 x6 : Value} {o : Obj} (h : Owned 42 B w1 (.slice (some ⟨g, 0, none⟩) l.length cap) l) (hbox : w1.heap[b]? = some (.cells #[x0, x1, x2, x3, x4, x5, x6] 42))
    (hown5 : w5.ownsRow B 42 7 (.slice (some ⟨g5, 0, none⟩) (l.length + 1) cap5) (l.length + 1) (cellsL l ++ [.int .u8 nd.kind, .string nd.name, .int .i64 (a : Int), .int .i64 nd.size, .int .i64 nd.time, .string nd.text, .slice none 0 0]))
    (hg5 : ((w1.setCell ⟨b, 2, none⟩ (.int .i64 (a : Int))).alloc o).grownBy w5 (Value.slice (some ⟨g, 0, none⟩) l.length cap).ownBlock) :
    Owned 42 B w5 (.slice (some ⟨g5, 0, none⟩) (l.length + 1) cap5) (l ++ [({ nd with up := (a : Int), kids := [] }, .slice none 0 0)]) := by
  refine ⟨by rw [List.length_append, cellsL_snoc]; exact hown5, fun q hq => ?_⟩
  rw [List.mem_append] at hq
  rcases hq with hq | hq
  · have h1 := h.2 q hq
    have hnb : q.2.ownBlock ≠ some b := by
      intro e
      rcases h1.2 with ⟨e2, _⟩ | ⟨g1, cap1, cur, e2, _, hc, _⟩
      · rw [e2] at e; cases e
      · rw [e2] at e
        simp only [Value.ownBlock, Option.some.injEq] at e
        subst e
        rw [hbox] at hc; cases hc
    have h2 := (ownsRow_setCell_other h1 (a := ⟨b, 2, none⟩) hnb (.int .i64 (a : Int))).alloc o
    refine h2.kept hg5 ?_
    cases e : q.2.ownBlock with
    | none => exact .inl rfl
    | some g1 =>
      refine .inr ?_
      have := own_apart h1 h.1 (by decide) e
      intro e2; exact this e2.symm
  · simp at hq; subst hq
    exact World.ownsRow_nil _ _ _ _
theorem cellsL_set2 (u : Value) (l : List (NodeD × Value)) (i : Nat) (n n2 : NodeD) (kv : Value) (h : l[i]? = some (n, kv)) (hn : cells7 (n2, u) = cells7 (n, u)) : (cellsL l).set (i * 7 + 6) u = cellsL (l.set i (n2, u)) := by
  rw [cellsL_set u l i n kv h]
  have hlt := (List.getElem?_eq_some_iff.1 h).1
  rw [List.set_eq_take_append_cons_drop, List.set_eq_take_append_cons_drop, if_pos hlt, if_pos hlt]
  simp only [cellsL, List.flatMap_append, List.flatMap_cons, hn]
def Keeps9 (w w' : World) : Prop := ∀ (g : Nat) (cur : Array Value), w.heap[g]? = some (.cells cur 9 (0, 0)) → w'.heap[g]? = some (.cells cur 9 (0, 0))
theorem Keeps9.trans {a b c : World} (h : Keeps9 a b) (k : Keeps9 b c) : Keeps9 a c := fun g cur e => k g cur (h g cur e)
theorem Keeps9.of_below {w w' : World} (h : Below w.heap.size w w') : Keeps9 w w' := fun g _ e => (h.block g (Array.getElem?_eq_some_iff.1 e).1).trans e
theorem Keeps9.of_alloc (w : World) (o : Obj) : Keeps9 w (w.alloc o) := Keeps9.of_below ((Below.refl _ _).alloc (Nat.le_refl _) o)
theorem Keeps9.of_grown {w w' : World} {B t size n : Nat} {v : Value} {xs : List Value} (hg : w.grownBy w' v.ownBlock) (h : w.ownsRow B t size v n xs) (ht : t ≠ 9) : Keeps9 w w' := by
  intro g cur e
  refine (hg.block g (Array.getElem?_eq_some_iff.1 e).1 ?_).trans e
  intro e2
  rcases h.2 with ⟨rfl, _⟩ | ⟨g', cap, c2, rfl, _, hc, _⟩
  · cases e2
  · simp only [Value.ownBlock, Option.some.injEq] at e2
    subst e2
    rw [e] at hc
    cases hc
    exact ht rfl
theorem Keeps9.of_set {w : World} {b i t : Nat} {u : Value} {cs : Array Value} {f : Nat × Nat} (h : w.heap[b]? = some (.cells cs t f)) (ht : t ≠ 9) : Keeps9 w (w.setCell ⟨b, i, none⟩ u) := by
  intro g cur e
  have hne : b ≠ g := by
    intro e2
    subst e2
    rw [e] at h
    cases h
    exact ht rfl
  show (w.heap.modify b _)[g]? = _
  rw [Array.getElem?_modify, if_neg hne]
  exact e
def PutOk (B : Nat) (w' : World) (v' : Value) (er : Int) : PutD → Prop
  | .no x => er = x
  | .yes R' _ => er = 0 ∧ ∃ l', Owned 42 B w' v' l' ∧ Srt R' (l'.map (·.1))
def PutPost (B : Nat) (r : PutD) (w : World) (e : Ending) (w' : World) : Prop :=
  ∃ v' er, e = .returned (.tuple #[v', .int .i64 er]) ∧ PutOk B w' v' er r ∧ Below B w w' ∧ Keeps9 w w'
theorem put_err {B : Nat} {r : PutD} {w w' : World} {v' : Value} {er : Int} (h : r = .no er) (hb : Below B w w') (hk : Keeps9 w w') : PutPost B r w (.returned (.tuple #[v', .int .i64 er])) w' :=
  ⟨v', er, rfl, by rw [h]; rfl, hb, hk⟩
theorem keeps_set44 {B size n m g cap i : Nat} {W : World} {xs : List Value} {u : Value} (h : W.ownsRow B 42 size (.slice (some ⟨g, 0, none⟩) m cap) n xs) : Keeps9 W (W.setCell ⟨g, i, none⟩ u) := by
  rcases h.2 with ⟨e, _⟩ | ⟨g', cap', cur, e, _, hc, _⟩
  · cases e
  · cases e
    exact Keeps9.of_set hc (by decide)
theorem put_fin {B g5 cap5 g6 cap6 a m : Nat} {l : List (NodeD × Value)} {p : NodeD × Value} {n' : NodeD} {ks : List Nat} {w w5 wr : World} {R : List NodeD} {K : List ByteArray} {r : PutD} {d : NodeD} {K' : List ByteArray} (h5 : Owned 42 B w5 (.slice (some ⟨g5, 0, none⟩) (l.length + 1) cap5) (l ++ [(n', .slice none 0 0)])) (hsrt : Srt R (l.map (·.1))) (hkinv : KInv R K) (hd : R[a]? = some d) (hp : l[a]? = some p)
    (hks : ks.Perm (p.1.kids ++ [l.length])) (hpw : ks.Pairwise (ltN (l.map (·.1) ++ [n']))) (hrow : wr.ownsRow w5.heap.size 3 1 (.slice (some ⟨g6, 0, none⟩) m cap6) ks.length (ints ks)) (hbr : Below w5.heap.size w5 wr) (hb5 : Below B w w5) (hk5 : Keeps9 w w5) (hB : B ≤ w5.heap.size) (hk : n'.kids = []) (hr : r = .yes (addD R a d n' (d.kids ++ [R.length])) K') :
    PutPost B r w (.returned (.tuple #[.slice (some ⟨g5, 0, none⟩) (l.length + 1) cap5, .int .i64 0])) (wr.setCell ⟨g5, a * 7 + 6, none⟩ (.slice (some ⟨g6, 0, none⟩) m cap6)) := by
  have hlt := (List.getElem?_eq_some_iff.1 hp).1
  have hp5 : (l ++ [(n', Value.slice none 0 0)])[a]? = some p := by rw [List.getElem?_append_left hlt]; exact hp
  have hrr := h5.below hbr
  have hlen : (l ++ [(n', Value.slice none 0 0)]).length = l.length + 1 := by simp
  have hr1 : wr.ownsRow B 42 7 (.slice (some ⟨g5, 0, none⟩) (l.length + 1) cap5) (l.length + 1) (cellsL (l ++ [(n', .slice none 0 0)])) := by
    have := hrr.1; rw [hlen] at this; exact this
  have hg5 : B ≤ g5 := (hr1.lt g5 rfl).1
  refine ⟨_, 0, rfl, ?_, (hb5.trans (hbr.mono hB)).setCell (p := ⟨g5, a * 7 + 6, none⟩) hg5 _, (hk5.trans (Keeps9.of_below hbr)).trans (keeps_set44 hr1)⟩
  rw [hr]
  refine ⟨rfl, (l ++ [(n', Value.slice none 0 0)]).set a ((⟨p.1.kind, p.1.name, p.1.up, p.1.size, p.1.time, p.1.text, ks⟩ : NodeD), Value.slice (some ⟨g6, 0, none⟩) m cap6), ⟨?_, ?_⟩, ?_⟩
  · rw [List.length_set, hlen, ← cellsL_set2 (.slice (some ⟨g6, 0, none⟩) m cap6) _ a p.1 (⟨p.1.kind, p.1.name, p.1.up, p.1.size, p.1.time, p.1.text, ks⟩ : NodeD) p.2 hp5 rfl]
    exact own_set hr1 _
  · intro q hq
    rcases List.mem_or_eq_of_mem_set hq with hq | rfl
    · have h1 := hrr.2 q hq
      refine ownsRow_setCell_other h1 ?_ _
      intro e
      exact own_apart h1 hr1 (by decide) e rfl
    · refine ownsRow_setCell_other (owns_base' hB hrow) ?_ _
      intro e
      exact own_apart hrow hr1 (by decide) e rfl
  · have e : (((l ++ [(n', Value.slice none 0 0)]).set a ((⟨p.1.kind, p.1.name, p.1.up, p.1.size, p.1.time, p.1.text, ks⟩ : NodeD), Value.slice (some ⟨g6, 0, none⟩) m cap6)).map (·.1)) = addD (l.map (·.1)) a p.1 n' ks := by
      rw [List.map_set, List.map_append]; rfl
    rw [e]
    have hpL : (l.map (·.1))[a]? = some p.1 := by rw [List.getElem?_map, hp]; rfl
    refine hsrt.add hkinv hd hpL hk (by rw [List.length_map]; exact hks) (pairwise_same (fun c hc => ?_) hpw)
    have hc2 := hks.mem_iff.1 hc
    rw [List.mem_append] at hc2
    have hll : (l.map (·.1)).length = l.length := List.length_map _
    by_cases hcl : c < l.length
    · rw [nm_add hpL (by rw [hll]; exact hcl)]
      unfold nmL
      rw [List.getElem?_append_left (by rw [hll]; exact hcl)]
    · have hce : c = l.length := by
        rcases hc2 with hc2 | hc2
        · obtain ⟨d2, hd2, _, hdp, _⟩ := hsrt.back hpL
          have := hkinv.kid_lt hd2 c (hdp.mem_iff.1 hc2)
          rw [← hsrt.len, hll] at this; omega
        · simpa using hc2
      have e1 := nm_new (n := n') (ks := ks) hpL
      rw [hll] at e1
      rw [hce, e1]
      unfold nmL
      rw [List.getElem?_append_right (by rw [hll]; exact Nat.le_refl _), hll]
      simp
theorem row_int {B n cap g : Nat} {W : World} {ks : List Nat} (h : W.ownsRow B 3 1 (.slice (some ⟨g, 0, none⟩) n cap) ks.length (ints ks)) {j c : Nat} (hj : ks[j]? = some c) : W.cell? ⟨g, j, none⟩ = some (.int .i64 (c : Int)) := by
  rcases IntRow.of_owns h with ⟨e, _⟩ | ⟨g', cap', e, _, _, hx⟩
  · cases e
  · cases e; exact hx j c hj
theorem ints_set (ks : List Nat) (j c : Nat) : (ints ks).set j (.int .i64 (c : Int)) = ints (ks.set j c) := by
  unfold ints; rw [List.map_set]
set_option maxRecDepth 100000 in
set_option maxHeartbeats 2000000 in
theorem put_any (B C : Nat) (v nv : Value) (l : List (NodeD × Value)) (R : List NodeD) (K : List ByteArray) (nd : NodeD) (way : ByteArray) (names : List ByteArray) (r : PutD) (w : World) (hB : B ≤ w.heap.size) (hC : C ≤ w.heap.size) (hown : Owned 42 B w v l) (hsrt : Srt R (l.map (·.1))) (hkinv : KInv R K) (hok : (cutS 47 way).all nameOk = true) (hcs : names = cutS 47 way) (hl : l.length ≤ 200)
    (hname : nd.name = lastS way) (hr : putD R K ⟨(nd.kind, nd.size, nd.time, nd.text), way⟩ = r) (hnames : StrRow C w nv names) (hnl : names.length ≤ 1000000) :
    Calls Tryz.prog 20 #[v, .agg #[.int .u8 nd.kind, .string nd.name, .int .i64 nd.up, .int .i64 nd.size, .int .i64 nd.time, .string nd.text, .slice none 0 0], nv] w (PutPost B r w) := by
  have hn0 : names ≠ [] := by rw [hcs]; unfold cutS; simp [split_ne]
  have HR := hide hr
  have HKI := hide hkinv
  have HS := hide hsrt
  have hl0 : 0 < l.length := by have := hkinv.pos; rw [← hsrt.len, List.length_map] at this; exact this
  have hLl : R.length = l.length := by rw [← hsrt.len, List.length_map]
  have HW : Hid (∀ a d, walkK R names.dropLast = some a → R[a]? = some d → r = (if dirD d = false then .no 7 else if kidOf R d.kids nd.name = -1 then .yes (addD R a d (newD a (nd.kind, nd.size, nd.time, nd.text) nd.name) (d.kids ++ [R.length])) (K ++ [way]) else .no 8)) := by
    intro a d hw hd
    rw [hcs] at hw
    rw [← hr, (put_some hkinv (ln := ⟨(nd.kind, nd.size, nd.time, nd.text), way⟩) hok hw hd).1, hname]
  have HN6 : Hid (walkK R names.dropLast = none → r = .no 6) := by
    intro hw
    rw [hcs] at hw
    rw [← hr, put_none hkinv (ln := ⟨(nd.kind, nd.size, nd.time, nd.text), way⟩) hok hw]
  have HKL : Hid (∀ (i : Nat) (n : NodeD), (l.map (·.1))[i]? = some n → (∀ c ∈ n.kids, c < l.length) ∧ n.kids.length ≤ l.length ∧ ∃ d, R[i]? = some d ∧ dirD n = dirD d ∧ ∀ x, kidOf (l.map (·.1)) n.kids x = kidOf R d.kids x) := by
    intro i n hn
    obtain ⟨d, hd, hnk, hp, _⟩ := hsrt.back hn
    refine ⟨fun c hc => ?_, ?_, d, hd, by rw [hnk]; rfl, fun x => hsrt.kid hkinv hd hn x⟩
    · have := hkinv.kid_lt hd c (hp.mem_iff.1 hc); omega
    · have := hkinv.klen i d hd; rw [hp.length_eq]; omega
  clear hr hkinv hsrt hcs hok hname
  obtain ⟨g, cap, rfl⟩ : ∃ g cap, v = .slice (some ⟨g, 0, none⟩) l.length cap := by
    rcases hown.1.2 with ⟨_, h0⟩ | ⟨g, cap, cur, e, _⟩
    · omega
    · exact ⟨g, cap, e⟩
  have hnlen : 1 ≤ names.length := by
    cases names with
    | nil => exact absurd rfl hn0
    | cons a b => simp
  obtain ⟨i0, hi, hz0, hz1, hz2⟩ := info_parts Tryz.info42
  have hgl : g < w.heap.size := (hown.1.lt g rfl).2
  go_enter Tryz.func20, Tryz.ntmps20
  go_wp2
  obtain ⟨W0, hW0⟩ : ∃ W0, w.alloc (.cells #[.int .u8 nd.kind, .string nd.name, .int .i64 nd.up, .int .i64 nd.size, .int .i64 nd.time, .string nd.text, .slice none 0 0] 42) = W0 := ⟨_, rfl⟩
  rw [hW0]
  have hbox : W0.heap[w.heap.size]? = some (.cells #[.int .u8 nd.kind, .string nd.name, .int .i64 nd.up, .int .i64 nd.size, .int .i64 nd.time, .string nd.text, .slice none 0 0] 42) := by rw [← hW0]; exact World.alloc_heap_new w _
  have hbl0 : Below w.heap.size w W0 := by rw [← hW0]; exact (Below.refl _ _).alloc (Nat.le_refl _) _
  have hs0 : w.heap.size < W0.heap.size := by rw [← hW0]; simp
  have hown0 := hown.below hbl0
  obtain ⟨g2, cap2, rfl, hg2, hcap2, hx2⟩ := (hnames.below (hbl0.mono hC)).more hn0
  clear hW0 hown hnames hn0
  have HLen : Hid ((l.map (·.1)).length = l.length) := List.length_map _
  have HBOX := hide hbox
  clear hbox
  go_loop [8, 9] (fun av iv => ∃ a i : Nat, a < l.length ∧ i ≤ names.length - 1 ∧ av = .int .i64 a ∧ iv = .int .i64 i ∧ walkK R (names.take i) = some a) (fun _ iv => names.length - (intOf iv).toNat)
  case atStart => exact ⟨0, 0, hl0, Nat.zero_le _, rfl, rfl, rfl⟩
  case round =>
    obtain ⟨a, i, ha, hi2, rfl, rfl, hwk⟩ := hrel
    obtain ⟨p, hp⟩ : ∃ p, l[a]? = some p := ⟨_, List.getElem?_eq_getElem ha⟩
    have hpL : (l.map (·.1))[a]? = some p.1 := by rw [List.getElem?_map, hp]; rfl
    obtain ⟨hklt, hkl, d, hd, hdd, hkk⟩ := (unhide HKL) a p.1 hpL
    have HWK := hide hwk
    clear hwk
    by_cases hlt : i < names.length - 1
    · obtain ⟨nm, hnm⟩ : ∃ nm, names[i]? = some nm := ⟨_, List.getElem?_eq_getElem (by omega)⟩
      have hc2 := hx2 i nm hnm
      have hK := kid_any W0.heap.size _ (l.map (·.1)) a p.1 nm W0 (by rw [HLen.out]; omega) hown0.row hpL (by rw [HLen.out]; exact hklt) (by omega)
      have hst : stepK R a nm = if kidOf (l.map (·.1)) p.1.kids nm = -1 then none else some (kidOf (l.map (·.1)) p.1.kids nm).toNat := by
        unfold stepK; rw [hd, hkk]
      have hnx := walk_next HWK.out hnm
      rcases kidOf_cases (l.map (·.1)) p.1.kids nm with ⟨hk, _⟩ | ⟨c, hk, hkm, _⟩
      · rw [hk] at hK
        rw [hst, hk, if_pos rfl] at hnx
        have H6 : Hid (r = .no 6) := by
          refine (unhide HN6) (walk_none (i := i + 1) ?_)
          rw [List.dropLast_eq_take, List.take_take, show min (i + 1) (names.length - 1) = i + 1 from by omega]; exact hnx
        clear hx2 hnm hk hkl hst hnx hkk hd hdd hklt
        have HK := hide hK
        clear hK
        go_wp2_with (go_at_call 33; refine (unhide HK).mono ?_; rintro e w' ⟨rfl, rfl⟩)
        go_ret2
        exact put_err H6.out (hbl0.mono hB) (Keeps9.of_below hbl0)
      · rw [hk] at hK
        rw [hst, hk, if_neg (by omega), Int.toNat_natCast] at hnx
        have HNX := hide hnx
        have hcl := hklt c hkm
        clear hx2 hnm hk hkm hkl hst hnx hkk hd hdd hklt
        have HK := hide hK
        clear hK
        go_wp2_with (go_at_call 33; refine (unhide HK).mono ?_; rintro e w' ⟨rfl, rfl⟩)
        go_round
        case rel => exact ⟨c, i + 1, hcl, by omega, rfl, by go_num, HNX.out⟩
        case measure => simp [intOf]; omega
    · obtain rfl : i = names.length - 1 := by omega
      clear hx2
      rw [← List.dropLast_eq_take] at HWK
      have HRR := hide ((unhide HW) a d HWK.out hd)
      obtain ⟨c0, c1, c2, c3, c4, c5, c6⟩ := hown0.node rfl hp
      have HD := hide (isDir_any p.1 p.2 W0)
      have HKK := hide hkk
      have HDD := hide hd
      have HKLT := hide hklt
      clear hkk hd hklt
      cases hdir : dirD p.1
      · rw [hdir] at hdd
        have H7 : Hid (r = .no 7) := by unfold Hid; rw [HRR.out, if_pos hdd.symm]
        clear hdd
        go_wp2_with (go_at_call 34; refine (unhide HD).mono ?_; rintro e w1 ⟨rfl, hb1⟩)
        go_ret2
        exact put_err H7.out ((hbl0.mono hB).trans (hb1.mono (by omega))) ((Keeps9.of_below hbl0).trans (Keeps9.of_below hb1))
      · rw [hdir] at hdd
        have HDR := hide hdd
        clear hdd
        go_wp2_with fail
        refine (unhide HD).mono ?_
        rintro e w1 ⟨rfl, hb1⟩
        have hs1 := hb1.size
        have hown1 := hown0.below hb1
        have hbox1 := (hb1.block w.heap.size hs0).trans (unhide HBOX)
        obtain ⟨b0, b1, b2, b3, b4, b5, b6, bf⟩ := box_cells hbox1
        have hK := kid_any w1.heap.size _ (l.map (·.1)) a p.1 nd.name w1 (by rw [HLen.out]; omega) hown1.row hpL (by rw [HLen.out]; exact HKLT.out) (by omega)
        have HBX1 := hide hbox1
        clear c0 c1 c2 c3 c4 c5 c6 hbox1
        rcases kidOf_cases (l.map (·.1)) p.1.kids nd.name with ⟨hk, hkno⟩ | ⟨c, hk, hkm, _⟩
        · rw [hk] at hK
          have HYES : Hid (r = .yes (addD R a d (newD a (nd.kind, nd.size, nd.time, nd.text) nd.name) (d.kids ++ [R.length])) (K ++ [way])) := by
            unfold Hid; rw [HRR.out, if_neg (by rw [← HDR.out]; simp), if_pos (by rw [← HKK.out, hk])]
          have HNO := hide hkno
          have HK := hide hK
          clear hK hk hkno
          have HB1 := hide hb1
          have HO1 := hide hown1
          have HO0 := hide hown0
          clear hb1 hown1 hown0
          have bf2 := bf 2
          go_wp2_with fail
          refine (unhide HK).mono ?_
          rintro e w1' ⟨rfl, rfl⟩
          have hownS : (w1'.setCell ⟨w.heap.size, 2, none⟩ (.int .i64 (a : Int))).ownsRow B 42 7 (.slice (some ⟨g, 0, none⟩) l.length cap) l.length (cellsL l) := ownsRow_setCell_other (unhide HO1).1 (by simp [Value.ownBlock]; omega) _
          have HOS := hide hownS
          clear hownS
          go_wp2_with (at_builtin; refine wpList_append_own _ rfl (.tmp 49) (.tmp 51) 22 rfl B 42 i0 (.agg #[.int .u8 0, .string ⟨#[]⟩, .int .i64 0, .int .i64 0, .int .i64 0, .string ⟨#[]⟩, .slice none 0 0]) 7 88 Tryz.underlying22 hi hz0 hz1 hz2 rfl (by decide) _ _ _ rfl ((unhide HOS).alloc _) ⟨w1'.heap.size, 0, none⟩ 1 1 [.int .u8 nd.kind, .string nd.name, .int .i64 (a : Int), .int .i64 nd.size, .int .i64 nd.time, .string nd.text, .slice none 0 0] rfl rfl (seven_new _ _ (by simp) _ _ _ _ _ _ _) (by intro u hu; simp at hu; rcases hu with rfl | rfl | rfl | rfl | rfl | rfl | rfl <;> rfl) (by unfold maxLen; omega) (by omega) (by simp; omega) ?_; intro v5 w5 hown5 hg5 _; obtain ⟨g5, cap5, rfl⟩ := ownsRow_succ hown5; have h56 : w5.cell? ⟨g5, a * 7 + 6, none⟩ = some p.2 := row_cell hown5 rfl (by rw [List.getElem?_append_left (by rw [cellsL_length]; omega)]; exact (cellsL_get 6 (by omega) l a p hp).trans rfl))
          have HO5 := hide (put_owned (unhide HO1) (unhide HBX1) hown5 hg5)
          have HB5 : Hid (Below B w w5) := by
            have e1 : Below B w w1' := (hbl0.mono hB).trans ((unhide HB1).mono (by omega))
            have e2 := (e1.setCell (p := ⟨w.heap.size, 2, none⟩) hB (.int .i64 (a : Int))).alloc (by simp; omega) (.cells #[.int .u8 nd.kind, .string nd.name, .int .i64 (a : Int), .int .i64 nd.size, .int .i64 nd.time, .string nd.text, .slice none 0 0] 42)
            exact e2.grown hg5 (by simp; omega) (fun j e => ((unhide HOS).lt j e).1)
          have HK5 : Hid (Keeps9 w w5) := ((((Keeps9.of_below hbl0).trans (Keeps9.of_below (unhide HB1))).trans (Keeps9.of_set (unhide HBX1) (by decide))).trans (Keeps9.of_alloc _ _)).trans (Keeps9.of_grown hg5 ((unhide HOS).alloc _) (by decide))
          have hg5l : g5 < w5.heap.size := (hown5.lt g5 rfl).2
          have HA := hide (append2_any w5.heap.size p.2 p.1.kids l.length w5 (by omega) (IntRow.of_owns ((unhide HO5).2 p (by simp [List.mem_of_getElem? hp]))))
          clear hown5 hg5
          refine (unhide HA).mono ?_
          rintro e w6 ⟨v6, rfl, hown6, hb6⟩
          rw [List.length_append] at hown6
          obtain ⟨g6, cap6, rfl⟩ := ownsRow_succ hown6
          clear HA h56 b0 b1 b2 b3 b4 b5 b6 bf bf2 HK HOS HBX1 HO1 HB1 HD HBOX HRR
          have hg6 := (hown6.lt g6 rfl).1
          have hnm : ∀ c, c < l.length + 1 → ∃ q, (l ++ [({ nd with up := (a : Int), kids := [] }, Value.slice none 0 0)])[c]? = some q ∧ w5.cell? ⟨g5, c * 7 + 1, none⟩ = some (.string q.1.name) ∧ nmL (l.map (·.1) ++ [{ nd with up := (a : Int), kids := [] }]) c = q.1.name.toList := by
            intro c hc
            obtain ⟨q, hq⟩ : ∃ q, (l ++ [({ nd with up := (a : Int), kids := [] }, Value.slice none 0 0)])[c]? = some q := ⟨_, List.getElem?_eq_getElem (by simp; omega)⟩
            refine ⟨q, hq, ((unhide HO5).node (cap := cap5) (by simp) hq).2.1, nmL_of ?_⟩
            have e : l.map (fun q : NodeD × Value => q.1) ++ [({ nd with up := (a : Int), kids := [] } : NodeD)] = List.map (fun q : NodeD × Value => q.1) (l ++ [(({ nd with up := (a : Int), kids := [] } : NodeD), Value.slice none 0 0)]) := by rw [List.map_append]; rfl
            rw [e, List.getElem?_map, hq]; rfl
          have HPW : Hid (p.1.kids.Pairwise (ltN (l.map (·.1) ++ [{ nd with up := (a : Int), kids := [] }]))) := by
            obtain ⟨d2, _, _, _, hpw⟩ := (unhide HS).back hpL
            refine pairwise_same (fun c hc => ?_) hpw
            have hc2 := HKLT.out c hc
            rw [← (unhide HS).name c]
            unfold nmL
            rw [List.getElem?_append_left (by rw [HLen.out]; exact hc2)]
          have HNE : Hid (∀ c ∈ p.1.kids, nmL (l.map (·.1) ++ [{ nd with up := (a : Int), kids := [] }]) c ≠ nmL (l.map (·.1) ++ [{ nd with up := (a : Int), kids := [] }]) l.length) := by
            intro c hc e
            have hc2 := HKLT.out c hc
            have h1 := HNO.out c hc
            obtain ⟨m, hm⟩ : ∃ m, (l.map (·.1))[c]? = some m := ⟨_, List.getElem?_eq_getElem (by rw [HLen.out]; exact hc2)⟩
            have e1 : nmL (l.map (·.1) ++ [{ nd with up := (a : Int), kids := [] }]) c = m.name.toList := nmL_of (by rw [List.getElem?_append_left (by rw [HLen.out]; exact hc2)]; exact hm)
            have e2 : nmL (l.map (·.1) ++ [{ nd with up := (a : Int), kids := [] }]) l.length = nd.name.toList := nmL_of (m := ({ nd with up := (a : Int), kids := [] } : NodeD)) (by rw [List.getElem?_append_right (by rw [HLen.out]; exact Nat.le_refl _), HLen.out]; simp)
            rw [e1, e2] at e
            unfold nameIs at h1
            rw [hm] at h1
            have h2 : (m.name.toList == nd.name.toList) = false := h1
            rw [e] at h2; simp at h2
          have HN := hide hnm
          clear hnm
          have hmem : ∀ c ∈ p.1.kids ++ [l.length], c < l.length + 1 := by
            intro c hc
            rw [List.mem_append] at hc
            rcases hc with hc | hc
            · have := HKLT.out c hc; omega
            · simp at hc; omega
          have HM := hide hmem
          clear hmem
          have h56 : w5.cell? ⟨g5, a * 7 + 6, none⟩ = some p.2 := ((unhide HO5).node (cap := cap5) (by simp) (by rw [List.getElem?_append_left ha]; exact hp)).2.2.2.2.2.2
          have f56 : w5.frozen? ⟨g5, a * 7 + 6, none⟩ = false := own_frozen (unhide HO5).1 _
          have HC6 := hide h56
          have HF6 := hide f56
          clear h56 f56
          have HO6 : Hid (w6.ownsRow w5.heap.size 3 1 (.slice (some ⟨g6, 0, none⟩) (p.1.kids.length + 1) cap6) (p.1.kids ++ [l.length]).length (ints (p.1.kids ++ [l.length]))) := by
            unfold Hid; rw [List.length_append]; exact hown6
          clear hown6
          have hB5s := (unhide HB5).size
          go_wp2
          go_loopw [12] (fun iv wr => ∃ (j : Nat) (ks : List Nat), iv = .int .i64 j ∧ Ins (ltN (l.map (·.1) ++ [{ nd with up := (a : Int), kids := [] }])) p.1.kids l.length ks j ∧ wr.ownsRow w5.heap.size 3 1 (.slice (some ⟨g6, 0, none⟩) (p.1.kids.length + 1) cap6) ks.length (ints ks) ∧ Below w5.heap.size w5 wr) (fun iv _ => (intOf iv).toNat)
          case atStart => exact ⟨p.1.kids.length, p.1.kids ++ [l.length], by go_num, ins_start _ _ _, HO6.out, hb6⟩
          case round =>
            obtain ⟨j, ks, rfl, hins, hrow, hbr⟩ := hrel
            have hperm := hins.perm
            have hj := (List.getElem?_eq_some_iff.1 hins.at).1
            have hkl2 := hperm.length_eq
            rw [List.length_append] at hkl2
            simp only [List.length_singleton] at hkl2
            have c56 : wr.cell? ⟨g5, a * 7 + 6, none⟩ = some p.2 := (hbr.cell (p := ⟨g5, a * 7 + 6, none⟩) hg5l).trans HC6.out
            have f56 : wr.frozen? ⟨g5, a * 7 + 6, none⟩ = false := (hbr.frozen (p := ⟨g5, a * 7 + 6, none⟩) hg5l).trans HF6.out
            have HPE := hide hperm
            have HRO := hide hrow
            have HIN := hide hins
            by_cases hj0 : j = 0
            · subst hj0
              clear hperm hrow hins
              go_wp2
              go_quiet (fail)
              go_wp2
              go_ret2
              exact put_fin (unhide HO5) (unhide HS) (unhide HKI) HDD.out hp (unhide HPE) ((unhide HIN).done (unhide HPW) (unhide HNE) (.inl rfl)) (show (wr.drewN nq).ownsRow _ _ _ _ _ _ from unhide HRO) (Go.below_drewN hbr nq) (unhide HB5) (unhide HK5) (by omega) rfl HYES.out
            · obtain ⟨q, rfl⟩ : ∃ q, j = q + 1 := ⟨j - 1, by omega⟩
              have hc1 := hins.at
              obtain ⟨c2, hc2⟩ : ∃ c, ks[q]? = some c := ⟨_, List.getElem?_eq_getElem (by omega)⟩
              have k1 := row_int hrow hc1
              have k2 := row_int hrow hc2
              have kf1 := own_frozen hrow (q + 1)
              have kf2 := own_frozen hrow q
              have hl2 := (unhide HM) c2 (hperm.mem_iff.1 (List.mem_of_getElem? hc2))
              obtain ⟨q1, _, n1, e1⟩ := (unhide HN) l.length (by omega)
              obtain ⟨q2, _, n2, e2⟩ := (unhide HN) c2 hl2
              have m1 : wr.cell? ⟨g5, l.length * 7 + 1, none⟩ = some (.string q1.1.name) := (hbr.cell (p := ⟨g5, l.length * 7 + 1, none⟩) hg5l).trans n1
              have m2 : wr.cell? ⟨g5, c2 * 7 + 1, none⟩ = some (.string q2.1.name) := (hbr.cell (p := ⟨g5, c2 * 7 + 1, none⟩) hg5l).trans n2
              have HC1 := hide hc1
              have HC2 := hide hc2
              have HLT : Hid (ltN (l.map (·.1) ++ [{ nd with up := (a : Int), kids := [] }]) l.length c2 ↔ Op.bytesLess q1.1.name.toList q2.1.name.toList = true) := by
                unfold Hid ltN; rw [e1, e2]
              have hqk : q + 1 < p.1.kids.length + 1 := by omega
              have hjl : (0 : Int) < (q : Int) + 1 := by omega
              clear hperm hrow hc1 hc2 n1 n2 e1 e2 hins
              cases hless : Op.bytesLess q1.1.name.toList q2.1.name.toList
              · rw [hless] at HLT
                go_wp2
                go_quiet (fail)
                go_wp2
                go_ret2
                exact put_fin (unhide HO5) (unhide HS) (unhide HKI) HDD.out hp (unhide HPE) ((unhide HIN).done (unhide HPW) (unhide HNE) (.inr ⟨c2, HC2.out, fun h => by have := HLT.out.1 h; cases this⟩)) (show (wr.drewN nq).ownsRow _ _ _ _ _ _ from unhide HRO) (Go.below_drewN hbr nq) (unhide HB5) (unhide HK5) (by omega) rfl HYES.out
              · rw [hless] at HLT
                go_wp2
                go_quiet (fail)
                go_wp2
                have hR2 : (((wr.drewN nq).setCell ⟨g6, q + 1, none⟩ (.int .i64 (c2 : Int))).setCell ⟨g6, q, none⟩ (.int .i64 (l.length : Int))).ownsRow w5.heap.size 3 1 (.slice (some ⟨g6, 0, none⟩) (p.1.kids.length + 1) cap6) ((ks.set (q + 1) c2).set q l.length).length (ints ((ks.set (q + 1) c2).set q l.length)) := by
                  rw [← ints_set, ← ints_set, List.length_set, List.length_set]
                  exact own_set (own_set (show (wr.drewN nq).ownsRow _ _ _ _ _ _ from unhide HRO) _) _
                go_roundw
                case rel => exact ⟨q, _, rfl, (unhide HIN).swap HC2.out (HLT.out.2 (by trivial)), hR2, ((Go.below_drewN hbr nq).setCell (p := ⟨g6, q + 1, none⟩) hg6 _).setCell (p := ⟨g6, q, none⟩) hg6 _⟩
                case measure => simp [intOf]
        · rw [hk] at hK
          have H8 : Hid (r = .no 8) := by
            unfold Hid; rw [HRR.out, if_neg (by rw [← HDR.out]; simp), if_neg (by rw [← HKK.out, hk]; omega)]
          have HK := hide hK
          clear hK hk hkm
          go_wp2_with (go_at_call 33; refine (unhide HK).mono ?_; rintro e w' ⟨rfl, rfl⟩)
          go_ret2
          exact put_err H8.out ((hbl0.mono hB).trans (hb1.mono (by omega))) ((Keeps9.of_below hbl0).trans (Keeps9.of_below hb1))
end Go.Proofs.YtfemboojdablhaaGreatDoor.Tre
