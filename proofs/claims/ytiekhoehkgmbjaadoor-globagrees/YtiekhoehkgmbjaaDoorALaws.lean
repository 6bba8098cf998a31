/- The law AutoLaws: what the Ops mean of two sets and a text cut in two. -/
import Derived.Test.YtiekhoehkgmbjaaDoorARefO
namespace Go.Proofs.YtiekhoehkgmbjaaDoor
open Go.RowKit Go.Maps

theorem in_row2 {a b : ExprD} {st s t : List UInt8} (h1 : InE a s) (h2 : InE b t) : InE (.mk 3 st [a, b]) (s ++ t) := by
  have h := InRow.cons b [] t [] h2 .nil
  rw [List.append_nil] at h
  exact .row st _ _ (.cons a [b] s t h1 h)
theorem in_again2 {a b : ExprD} {st s t : List UInt8} (h1 : InE a s) (h2 : InE b t) : InE (.mk 5 st [a, b]) (s ++ t) := by
  have h := InE.again st [a, b] b t [] (by simp) h2 (.none st [a, b])
  rw [List.append_nil] at h
  exact .again st [a, b] a s t (by simp) h1 h
theorem in_choice2 {a b : ExprD} {st s : List UInt8} : InE (.mk 4 st [a, b]) s ↔ InE a s ∨ InE b s := by
  constructor
  · intro h
    generalize he : ExprD.mk 4 st [a, b] = e at h
    cases h with
    | choice st ks k s hk h =>
      cases he
      rcases List.mem_cons.1 hk with rfl | hk
      · exact .inl h
      · obtain rfl := List.mem_singleton.1 hk
        exact .inr h
    | _ => cases he
  · rintro (h | h)
    · exact .choice st _ a s (by simp) h
    · exact .choice st _ b s (by simp) h
theorem wt2 {op : Int} {st : List UInt8} {a b : ExprD} (ha : nodes a ≤ 2000000) (hb : nodes b ≤ 2000000) : wt (.mk op st [a, b]) ≤ 10000000 := by
  have h := wt_nodes (.mk op st [a, b])
  rw [nodes, nodesL, nodesL, nodesL] at h
  omega
/-- An Expr in its own block. -/
def Box28 (W : World) (g : Nat) (op : Int) (s : ByteArray) (v : Value) : Prop := W.heap[g]? = some (.cells #[.int .i64 op, .string s, v] 28 (0, 0))
theorem Box28.cells {W : World} {z : Nat} {op : Int} {s : ByteArray} {v : Value} (h : Box28 W z op s v) : W.cell? ⟨z, 0, none⟩ = some (.int .i64 op) ∧ W.cell? ⟨z, 1, none⟩ = some (.string s) ∧ W.cell? ⟨z, 2, none⟩ = some v := by
  unfold Box28 at h
  refine ⟨?_, ?_, ?_⟩ <;> simp [World.cell?, h]
theorem Box28.below {B : Nat} {W W' : World} (hb : Below B W W') {z : Nat} {op : Int} {s : ByteArray} {v : Value} (h : Box28 W z op s v) (hz : z < B) : Box28 W' z op s v := (hb.block _ hz).trans h
theorem exprAt_mk {B : Nat} {W : World} {g o : Nat} {op : Int} {st : ByteArray} {v : Value} {ks : List ExprD} (hg : g < B) (h0 : W.cell? ⟨g, o, none⟩ = some (.int .i64 op)) (h1 : W.cell? ⟨g, o + 1, none⟩ = some (.string st)) (h2 : W.cell? ⟨g, o + 2, none⟩ = some v) (hs : st.size ≤ 1000000000) (hk : KidsAt B W v ks) : ExprAt B W g o (.mk op st.data.toList ks) := by
  rcases hk with ⟨rfl, rfl⟩ | ⟨gk, ck, rfl, h4, h5⟩
  · exact .nil g o op st hg h0 h1 h2 hs
  · exact .row g o op st gk ck ks hg h0 h1 h2 hs h4 h5
/-- A row of two Exprs. -/
theorem kids2 {B : Nat} {W : World} {g c : Nat} {op op' : Int} {s s' : ByteArray} {v v' : Value} {ks ks' : List ExprD} (hg : g < B) (h : W.heap[g]? = some (.cells #[.int .i64 op, .string s, v, .int .i64 op', .string s', v'] 28 (0, 0))) (hs : s.size ≤ 1000000000) (hs' : s'.size ≤ 1000000000) (hv : KidsAt B W v ks) (hv' : KidsAt B W v' ks') (hc : 2 ≤ c) : KidsAt B W (.slice (some ⟨g, 0, none⟩) 2 c) [.mk op s.data.toList ks, .mk op' s'.data.toList ks'] := by
  refine .inr ⟨g, c, rfl, hc, fun i k hi => ?_⟩
  match i, hi with
  | 0, hi =>
    cases hi
    exact exprAt_mk hg (by simp [World.cell?, h]) (by simp [World.cell?, h]) (by simp [World.cell?, h]) hs hv
  | 1, hi =>
    cases hi
    exact exprAt_mk hg (by simp [World.cell?, h]) (by simp [World.cell?, h]) (by simp [World.cell?, h]) hs' hv'
  | i + 2, hi => simp at hi
theorem below_alloc_block {B : Nat} {W W' : World} (hb : Below B W W') (hB : B ≤ W'.heap.size) (o : Obj) (a : Nat) (ha : a < B) : (W'.alloc o).heap[a]? = W.heap[a]? := by
  have h1 := hb.block a ha
  by_cases hl : a < W'.heap.size
  · rw [← h1]
    exact (((Below.refl W'.heap.size W').alloc (Nat.le_refl _) o).block a hl)
  · exact absurd (Nat.lt_of_lt_of_le ha hB) (by omega)
set_option maxRecDepth 100000 in
set_option maxHeartbeats 4000000 in
theorem laws_any (op op' : Int) (s s' : ByteArray) (v v' : Value) (ks ks' : List ExprD) (t u : ByteArray) (w : World) (hk : KRd w.heap.size w v ks) (hk' : KRd w.heap.size w v' ks') (hs : s.size ≤ 1000000000) (hs' : s'.size ≤ 1000000000) (hn : nodes (.mk op s.data.toList ks) ≤ 2000000) (hn' : nodes (.mk op' s'.data.toList ks') ≤ 2000000) (ht : t.size ≤ 100000000) (hu : u.size ≤ 100000000) (hT : TabW w) (hpos : 0 < w.heap.size) :
    Calls Tryd.prog 4 #[.agg #[.int .i64 op, .string s, v], .agg #[.int .i64 op', .string s', v'], .string t, .string u] w fun e w' => e = .returned (.bool true) ∧ Below w.heap.size w w' := by
  obtain ⟨p, c, rfl⟩ := kids_shape hk
  obtain ⟨p', c', rfl⟩ := kids_shape hk'
  obtain ⟨W1, hW1⟩ : ∃ W1, (w.alloc (.cells #[.int .i64 op, .string s, .slice p ks.length c] 24)).alloc (.cells #[.int .i64 op', .string s', .slice p' ks'.length c'] 24) = W1 := ⟨_, rfl⟩
  have hal : Below w.heap.size w W1 := by rw [← hW1]; exact ((Below.refl _ _).alloc (Nat.le_refl _) _).alloc (by simp) _
  have hs1 : W1.heap.size = w.heap.size + 2 := by rw [← hW1]; simp
  have hA := World.alloc_heap_new w (.cells #[.int .i64 op, .string s, .slice p ks.length c] 24)
  have hA2 := World.alloc_heap_new (w.alloc (.cells #[.int .i64 op, .string s, .slice p ks.length c] 24)) (.cells #[.int .i64 op', .string s', .slice p' ks'.length c'] 24)
  rw [World.size_alloc] at hA2
  have e0 : EBox W1 w.heap.size op s (.slice p ks.length c) := by
    rw [← hW1]
    exact (below_alloc_block (Below.refl (w.heap.size + 1) _) (by rw [World.size_alloc]; omega) _ _ (by omega)).trans hA
  have e1 : EBox W1 (w.heap.size + 1) op' s' (.slice p' ks'.length c') := by
    rw [← hW1]
    exact hA2
  obtain ⟨b0, b1, b2⟩ := e0.cells
  have hex1 := express_all _ (.mk op s.data.toList ks) (Nat.le_refl _) (by omega) w.heap.size op s ks _ W1 rfl hs (hk.below hal) hal.size
  have HK := hide hk
  have HK' := hide hk'
  have HAL := hide hal
  have HS1 := hide hs1
  have HE1 := hide e1
  clear hk hk' hal hs1 e0 e1 hA hA2
  go_enter Tryd.func4, Tryd.ntmps4
  go_wp2_with fail
  refine hex1.mono ?_
  rintro e w2 ⟨v2, rfl, hkin1, hb2⟩
  obtain ⟨pa, pca, hpv⟩ := kin_shape hkin1
  subst hpv
  clear hW1 b0 b1 b2 hex1
  have hb02 : Below w.heap.size w w2 := HAL.out.trans (hb2.mono HAL.out.size)
  have f2 : ∀ o, EBox (w2.alloc o) (w.heap.size + 1) op' s' (.slice p' ks'.length c') := fun o => (below_alloc_block hb2 hb2.size o _ (by have := HS1.out; omega)).trans HE1.out
  have f20 := fun o => (f2 o).cells.1
  have f21 := fun o => (f2 o).cells.2.1
  have f22 := fun o => (f2 o).cells.2.2
  clear f2
  have hb03 : Below w.heap.size w (w2.alloc (.cells #[.int .i64 op, .string s, .slice pa ks.length pca] 28)) := hb02.alloc hb02.size _
  have hex2 := express_all _ (.mk op' s'.data.toList ks') (Nat.le_refl _) (by omega) w.heap.size op' s' ks' _ (w2.alloc (.cells #[.int .i64 op, .string s, .slice pa ks.length pca] 28)) rfl hs' (HK'.out.below hb03) hb03.size
  have HB2 := hide hb2
  have HB02 := hide hb02
  have HKIN1 := hide hkin1
  clear hb2 hb02 hkin1 hb03
  go_wp2_with fail
  refine hex2.mono ?_
  rintro e w4 ⟨v4, rfl, hkin2, hb4⟩
  obtain ⟨pb, pcb, hpv⟩ := kin_shape hkin2
  subst hpv
  clear f20 f21 f22 hex2
  obtain ⟨W3, hW3⟩ : ∃ W3, w2.alloc (.cells #[.int .i64 op, .string s, .slice pa ks.length pca] 28) = W3 := ⟨_, rfl⟩
  have hs3 : W3.heap.size = w2.heap.size + 1 := by rw [← hW3, World.size_alloc]
  have x3 : Box28 W3 w2.heap.size op s (.slice pa ks.length pca) := by rw [← hW3]; exact World.alloc_heap_new w2 _
  have hb23 : Below w2.heap.size w2 W3 := by rw [← hW3]; exact (Below.refl _ _).alloc (Nat.le_refl _) _
  rw [hW3] at hkin2 hb4
  have f3 : ∀ o, Box28 (w4.alloc o) w2.heap.size op s (.slice pa ks.length pca) := fun o => (below_alloc_block hb4 hb4.size o _ (by omega)).trans x3
  have f30 := fun o => (f3 o).cells.1
  have f31 := fun o => (f3 o).cells.2.1
  have f32 := fun o => (f3 o).cells.2.2
  have hb02 := HB02.out
  have hb03 : Below w.heap.size w W3 := hb02.trans (hb23.mono hb02.size)
  have hb04 : Below w.heap.size w w4 := hb03.trans (hb4.mono hb03.size)
  obtain ⟨W5, hW5⟩ : ∃ W5, w4.alloc (.cells #[.int .i64 op', .string s', .slice pb ks'.length pcb] 28) = W5 := ⟨_, rfl⟩
  have hs5 : W5.heap.size = w4.heap.size + 1 := by rw [← hW5, World.size_alloc]
  have y5 : Box28 W5 w4.heap.size op' s' (.slice pb ks'.length pcb) := by rw [← hW5]; exact World.alloc_heap_new w4 _
  have x5 : Box28 W5 w2.heap.size op s (.slice pa ks.length pca) := by rw [← hW5]; exact f3 _
  have hb45 : Below w4.heap.size w4 W5 := by rw [← hW5]; exact (Below.refl _ _).alloc (Nat.le_refl _) _
  obtain ⟨W6, hW6⟩ : ∃ W6, W5.alloc (.cells #[.int .i64 op, .string s, .slice pa ks.length pca, .int .i64 op', .string s', .slice pb ks'.length pcb] 28) = W6 := ⟨_, rfl⟩
  have hs6 : W6.heap.size = w4.heap.size + 2 := by rw [← hW6, World.size_alloc, hs5]
  have hb56 : Below W5.heap.size W5 W6 := by rw [← hW6]; exact (Below.refl _ _).alloc (Nat.le_refl _) _
  have hb46 : Below w4.heap.size w4 W6 := hb45.trans (hb56.mono (by omega))
  have h24 := hb4.size
  have h12 := HB2.out.size
  have x6 : Box28 W6 w2.heap.size op s (.slice pa ks.length pca) := x5.below hb56 (by omega)
  have y6 : Box28 W6 w4.heap.size op' s' (.slice pb ks'.length pcb) := y5.below hb56 (by omega)
  have z6 : W6.heap[w4.heap.size + 1]? = some (.cells #[.int .i64 op, .string s, .slice pa ks.length pca, .int .i64 op', .string s', .slice pb ks'.length pcb] 28 (0, 0)) := by rw [← hW6, ← hs5]; exact World.alloc_heap_new W5 _
  have hb36 : Below W3.heap.size W3 W6 := hb4.trans (hb46.mono hb4.size)
  have hb26 : Below w2.heap.size w2 W6 := hb23.trans (hb36.mono (by omega))
  have kx : KidsAt W6.heap.size W6 (.slice pa ks.length pca) ks := (HKIN1.out.keep (S' := fun k => k < W6.heap.size) (fun k hk => by have := hk.2; omega) (fun k hk => hb26.block k hk.2)).at_ (fun k hk => hk)
  have ky : KidsAt W6.heap.size W6 (.slice pb ks'.length pcb) ks' := (hkin2.keep (S' := fun k => k < W6.heap.size) (fun k hk => by have := hk.2; omega) (fun k hk => hb46.block k hk.2)).at_ (fun k hk => hk)
  have k2 : KidsAt W6.heap.size W6 (.slice (some ⟨w4.heap.size + 1, 0, none⟩) 2 2) [.mk op s.data.toList ks, .mk op' s'.data.toList ks'] := kids2 (by omega) z6 hs hs' kx ky (Nat.le_refl _)
  have hb06 : Below w.heap.size w W6 := hb04.trans (hb46.mono hb04.size)
  have hT6 : TabW W6 := hT.below hpos hb06
  have hp6 : 0 < W6.heap.size := by omega
  have hwx := wt_nodes (.mk op s.data.toList ks)
  have hwy := wt_nodes (.mk op' s'.data.toList ks')
  have M : ∀ (W : World), Below W6.heap.size W6 W → ∀ (op : Int) (s : ByteArray) (v : Value) (ks : List ExprD) (t : ByteArray), KidsAt W6.heap.size W6 v ks → s.size ≤ 1000000000 → wt (.mk op s.data.toList ks) ≤ 10000000 → t.size ≤ 1000000000 →
      Calls Tryd.prog 9 #[.agg #[.int .i64 op, .string s, v], .string t] W fun e w' => ∃ r, e = .returned (.bool r) ∧ (r = true ↔ InE (.mk op s.data.toList ks) t.data.toList) ∧ Below W6.heap.size W6 w' := by
    intro W hW op s v ks t hk hs hw ht
    refine (match_any op s v ks t W ((hk.below hW).wide hW.size) hs hw ht (hT6.below hp6 hW) (by have := hW.size; omega)).mono ?_
    rintro e w' ⟨r, rfl, hr, hb⟩
    exact ⟨r, rfl, hr, hW.trans (hb.mono hW.size)⟩
  have hC5 : ∀ W, Below W6.heap.size W6 W → Box28 W w4.heap.size op' s' (.slice pb ks'.length pcb) := fun W hW => y6.below hW (by omega)
  have htu : (t ++ u).size ≤ 1000000000 := by rw [ByteArray.size_append]; omega
  obtain ⟨p0, p1, p2⟩ := x6.cells
  rw [← hW5] at hW6
  have MA := M W6 (Below.refl _ _) op s _ ks t kx hs (by omega) (by omega)
  have HKX := hide kx
  have HKY := hide ky
  have HK2 := hide k2
  have HM := hide M
  have HC5 := hide hC5
  have HB06 := hide hb06
  have wtx := wt2 (op := 3) (st := []) hn hn'
  have wty := wt2 (op := 4) (st := []) hn hn'
  have wtz := wt2 (op := 5) (st := []) hn hn'
  have HWX := hide hwx
  have HWY := hide hwy
  have HTU := hide htu
  clear f3 hb4 hb23 hs3 x3 hW3 hkin2 hb02 hb03 hb04 hW5 hs5 y5 x5 hb45 hs6 hb56 hb46 h24 h12 x6 y6 z6 hb36 hb26 kx ky k2 hb06 hT6 hp6 hwx hwy M hC5 htu
  go_wp2_with first
    | (go_at_call 9; refine MA.mono ?_; rintro e w7 ⟨r1, rfl, h1, hb7⟩; obtain ⟨q0, q1, q2⟩ := (HC5.out w7 hb7).cells; have MB := HM.out w7 hb7 op' s' _ ks' u HKY.out hs' (by have := HWY.out; omega) (by omega); clear MA)
    | (go_at_call 9; refine MB.mono ?_; rintro e w8 ⟨r2, rfl, h2, hb8⟩; have MC := HM.out w8 hb8 3 ⟨#[]⟩ _ _ (t ++ u) HK2.out (by decide) wtx HTU.out; clear MB)
    | (go_at_call 9; refine MC.mono ?_; rintro e w9 ⟨r3, rfl, h3, hb9⟩; have MD := HM.out w9 hb9 4 ⟨#[]⟩ _ _ t HK2.out (by decide) wty (by omega); clear MC)
    | (go_at_call 9; refine MD.mono ?_; rintro e w10 ⟨r4, rfl, h4, hb10⟩; obtain ⟨n0, n1, n2⟩ := (HC5.out w10 hb10).cells; have ME := HM.out w10 hb10 op' s' _ ks' t HKY.out hs' (by have := HWY.out; omega) (by omega); clear MD)
    | (go_at_call 9; refine ME.mono ?_; rintro e w11 ⟨r5, rfl, h5, hb11⟩; have MF := HM.out w11 hb11 5 ⟨#[]⟩ _ _ (t ++ u) HK2.out (by decide) wtz HTU.out; clear ME)
    | (go_at_call 9; refine MF.mono ?_; rintro e w12 ⟨r6, rfl, h6, hb12⟩; have MG := HM.out w12 hb12 5 ⟨#[]⟩ _ _ ⟨#[]⟩ HK2.out (by decide) wtz (by decide); clear MF)
    | (go_at_call 9; refine MG.mono ?_; rintro e w13 ⟨r7, rfl, h7, hb13⟩; clear MG; have hcat : (t ++ u).data.toList = t.data.toList ++ u.data.toList := (by rw [ByteArray.data_append, Array.toList_append]); obtain rfl : r7 = true := h7.2 (InE.none [] _); have g4 : r4 = (r1 || r5) := (by rw [Bool.eq_iff_iff, Bool.or_eq_true, h1, h4, h5]; exact in_choice2); have g3 : r1 = true → r2 = true → r3 = true := (fun a b => h3.2 (by rw [hcat]; exact in_row2 (h1.1 a) (h2.1 b))); have g6 : r1 = true → r2 = true → r6 = true := (fun a b => h6.2 (by rw [hcat]; exact in_again2 (h1.1 a) (h2.1 b))); clear h1 h2 h3 h4 h5 h6 h7; subst g4; cases r1 <;> cases r2 <;> cases r5 <;> cases r3 <;> cases r6 <;> simp at g3 g6)
  all_goals go_ret
  all_goals exact ⟨by simp, HB06.out.trans (hb13.mono HB06.out.size)⟩
end Go.Proofs.YtiekhoehkgmbjaaDoor
