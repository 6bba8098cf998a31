/- The document's build, whole; made. -/
import Derived.Test.YtiekhoehkgmbjaaDoorARefJ
namespace Go.Proofs.YtiekhoehkgmbjaaDoor
open Go.RowKit Go.Maps

theorem nodes_mem {k : ExprD} : ∀ {ks : List ExprD}, k ∈ ks → nodes k ≤ nodesL ks := by
  intro ks
  induction ks with
  | nil => intro h; cases h
  | cons x r ih =>
    intro h
    rw [nodesL]
    rcases List.mem_cons.1 h with rfl | h
    · omega
    · have := ih h; omega
theorem rbuild_all : ∀ (n : Nat) (e : ExprD), nodes e ≤ n → BuildOK e := by
  intro n
  induction n with
  | zero => intro e h; cases e; rw [nodes] at h; omega
  | succ n ih =>
    rintro ⟨op, tx, ks⟩ h
    rw [nodes] at h
    have IH : ∀ k ∈ ks, BuildOK k := fun k hk => ih k (by have := nodes_mem hk; omega)
    by_cases h1 : op = 1
    · exact build1 h1
    by_cases h2 : op = 2
    · exact build2 h2
    by_cases h3 : op = 3
    · exact build3 h3 IH
    by_cases h4 : op = 4
    · exact build4 h4 IH
    by_cases h5 : op = 5
    · exact build5 h5 IH
    exact build0 h1 h2 h3 h4 h5
theorem own_head {B t n : Nat} {W : World} {v : Value} {xs : List Value} (h : W.ownsRow B t 1 v n xs) (hn : 0 < n) : ∃ g c, g < W.heap.size ∧ v = .slice (some ⟨g, 0, none⟩) n c ∧ ∀ (i : Nat) (u : Value), xs[i]? = some u → W.cell? ⟨g, i, none⟩ = some u := by
  rcases h.2 with ⟨_, e⟩ | ⟨g, c, cur, e, _, hg, hc, _, hcs, hct⟩
  · omega
  · refine ⟨g, c, (Array.getElem?_eq_some_iff.1 hg).1, e, fun i u hu => ?_⟩
    rw [cell_of_row _ _ _ _ _ _ hg]
    rw [← hct, List.getElem?_take] at hu
    split at hu
    · rw [Array.getElem?_toList] at hu
      exact hu
    · cases hu
theorem RRead.of_own {B a : Nat} {W : World} {sv tv ev : Value} {A : List RSt} {ss : List ByteArray} {evs : List Value} (h : RW B W a sv tv ev A ss evs) (hp : 0 < A.length) : RRead W.heap.size W a A := by
  obtain ⟨c0, c1, c2, _⟩ := h.box.cells
  obtain ⟨gs, cs, s1, rfl, s3⟩ := own_head h.sr hp
  obtain ⟨gt, ct, t1, rfl, t3⟩ := own_head h.ts hp
  obtain ⟨ge, ce, e1, rfl, e3⟩ := own_head h.es hp
  refine ⟨(Array.getElem?_eq_some_iff.1 h.box).1, ⟨gs, cs, s1, c0, fun i st hst => ?_⟩, ⟨gt, ct, t1, c1, fun i st hst => ?_⟩, ⟨ge, ce, e1, c2, fun i st hst => ?_⟩⟩
  · have h1 : (ss.map (fun t => t.data.toList))[i]? = some st.set := by rw [h.hss, List.getElem?_map, hst]; rfl
    rw [List.getElem?_map] at h1
    cases hsi : ss[i]? with
    | none => rw [hsi] at h1; cases h1
    | some t =>
      rw [hsi] at h1
      refine ⟨t, Option.some.inj h1, h.hsz t (List.mem_of_getElem? hsi), s3 i _ ?_⟩
      unfold strs
      rw [List.getElem?_map, hsi]; rfl
  · refine t3 i _ ?_
    unfold nats
    rw [List.getElem?_map, List.getElem?_map, hst]; rfl
  · have hil := (List.getElem?_eq_some_iff.1 hst).1
    have hl := h.evl
    refine ⟨evs[i]'(by omega), e3 i _ (List.getElem?_eq_getElem _), ?_⟩
    exact LRow.of_own (h.el i _ st (List.getElem?_eq_getElem _) hst).1
theorem wf_zero : Wf [(⟨[], 0, []⟩ : RSt)] := fun st hst => by
  rw [List.mem_singleton] at hst
  subst hst
  exact ⟨by simp, fun x hx => by cases hx⟩
def MadeP (e : ExprD) (w : World) (r : Ending) (w' : World) : Prop := ∃ a v out n₀, r = .returned (.tuple #[.pointer (some ⟨a, 0, none⟩), v]) ∧ RRead n₀ w' a (rAuto e) ∧ n₀ ≤ w'.heap.size ∧ ClosedL (rAuto e) [rStart e] out ∧ LRow w'.heap.size w' v out ∧ Below w.heap.size w w'
set_option maxRecDepth 100000 in
set_option maxHeartbeats 4000000 in
theorem made_any (op : Int) (s : ByteArray) (v : Value) (ks : List ExprD) (w : World) (hk : KRd w.heap.size w v ks) (hs : s.size ≤ 1000000000) (hsz : nodes (.mk op s.data.toList ks) ≤ 10000000) :
    Calls Tryd.prog 23 #[.agg #[.int .i64 op, .string s, v]] w (MadeP (.mk op s.data.toList ks) w) := by
  obtain ⟨p, c, rfl⟩ := kids_shape hk
  have hb0 := ebox w op s (.slice p ks.length c)
  obtain ⟨W1, hW1⟩ : ∃ W1, (w.alloc (.cells #[.int .i64 op, .string s, .slice p ks.length c] 24)).alloc (.cells #[.slice none 0 0, .slice none 0 0, .slice none 0 0] 103) = W1 := ⟨_, rfl⟩
  have hR0 : RW w.heap.size W1 (w.heap.size + 1) (.slice none 0 0) (.slice none 0 0) (.slice none 0 0) [] [] [] := by
    refine ⟨?_, by omega, ⟨rfl, .inl ⟨rfl, rfl⟩⟩, rfl, fun t ht => (by cases ht), ⟨rfl, .inl ⟨rfl, rfl⟩⟩, ⟨rfl, .inl ⟨rfl, rfl⟩⟩, fun i v st hv _ => (by cases hv)⟩
    have := World.alloc_heap_new (w.alloc (.cells #[.int .i64 op, .string s, .slice p ks.length c] 24)) (.cells #[.slice none 0 0, .slice none 0 0, .slice none 0 0] 103)
    rw [hW1, World.size_alloc] at this
    exact this
  have hbl : Below w.heap.size w W1 := by rw [← hW1]; exact ((Below.refl _ _).alloc (Nat.le_refl _) _).alloc (by rw [World.size_alloc]; omega) _
  have hE1 : EBox W1 w.heap.size op s (.slice p ks.length c) := by
    rw [← hW1]
    exact (Below.heap_alloc _ _ _ (by rw [World.size_alloc]; omega)).trans hb0
  have hst := state_any w.heap.size (w.heap.size + 1) _ _ _ [] [] [] ⟨#[]⟩ 0 (.slice none 0 0) [] W1 hR0 (nil_own _ _) (fun g e => by cases e) (by decide) (by simp) hbl.size
  have HE := hide hE1
  have HBL := hide hbl
  have HK := hide hk
  clear hk hb0 hR0 hbl hE1
  go_enter Tryd.func23, Tryd.ntmps23
  go_wp2_with (go_at_call 39; refine hst.mono ?_; rintro e w2 ⟨rfl, sv2, tv2, ev2, hR2, hF2⟩; obtain ⟨c0, c1, c2⟩ := (HE.out.fr hF2).cells)
  have hb2 : Below w.heap.size w w2 := HBL.out.trans hF2.bel
  have hR2' : RW w.heap.size w2 (w.heap.size + 1) sv2 tv2 ev2 [(⟨[], 0, []⟩ : RSt)] ([] ++ [⟨#[]⟩]) ([] ++ [.slice none 0 0]) := hR2
  have hih := rbuild_all _ (.mk op s.data.toList ks) (Nat.le_refl _) w.heap.size (w.heap.size + 1) sv2 tv2 ev2 [(⟨[], 0, []⟩ : RSt)] _ _ 0 w2 (.agg #[.int .i64 op, .string s, .slice p ks.length c]) op s.data.toList ks rfl ⟨s, _, rfl, rfl, hs, HK.out.below hb2⟩ hR2' (by simp) wf_zero (by simp only [List.length_singleton]; omega) hb2.size
  obtain ⟨zW, zn, zl, zu, ze⟩ := bld_sz (.mk op s.data.toList ks) [(⟨[], 0, []⟩ : RSt)] 0 (by simp) wf_zero
  have hih2 : Calls Tryd.prog 40 #[.pointer (some ⟨w.heap.size + 1, 0, none⟩), .agg #[.int .i64 op, .string s, .slice p ks.length c], .int .i64 0] w2 (BuildP w.heap.size (w.heap.size + 1) tv2 ([] ++ [.slice none 0 0]) (rAuto (.mk op s.data.toList ks)) (rStart (.mk op s.data.toList ks)) w2) := hih
  change Wf (rAuto _) at zW
  change rStart _ < (rAuto _).length at zn
  change _ ≤ (rAuto _).length at zl
  change (rAuto _).length ≤ _ at zu
  change epsT (rAuto _) + 1 ≤ _ at ze
  have e0 : epsT [(⟨[], 0, []⟩ : RSt)] = 0 := rfl
  rw [e0] at ze
  simp only [List.length_singleton] at zl zu
  obtain ⟨A, hAE⟩ : ∃ A, rAuto (.mk op s.data.toList ks) = A := ⟨_, rfl⟩
  obtain ⟨k, hkE⟩ : ∃ k, rStart (.mk op s.data.toList ks) = k := ⟨_, rfl⟩
  rw [hAE] at zW zn zl zu ze hih2
  rw [hkE] at zn hih2
  have HAE := hide hAE
  have HKE := hide hkE
  clear hAE hkE
  have HB2 := hide hb2
  clear hR2 hF2 hst hR2' hih hb2
  go_wp2_with (go_at_call 40; refine hih2.mono ?_; rintro e w3 ⟨rfl, sv3, tv3, ev3, ss3, evs3, hR3, hF3, hev3⟩)
  have hRR := RRead.of_own hR3 (by omega)
  have hal : Below w3.heap.size w3 (w3.alloc (.cells #[.int .i64 (k : Int)] 3)) := (Below.refl _ _).alloc (Nat.le_refl _) _
  have hLR : LRow (w3.alloc (.cells #[.int .i64 (k : Int)] 3)).heap.size (w3.alloc (.cells #[.int .i64 (k : Int)] 3)) (.slice (some ⟨w3.heap.size, 0, none⟩) 1 1) [k] := LRow.of_own (B := w3.heap.size) (own_one w3 w3.heap.size (Nat.le_refl _) _ 3)
  have hb3 : Below w.heap.size w w3 := HB2.out.trans hF3.bel
  have hclo := closed_any w3.heap.size (w.heap.size + 1) A _ [k] _ (hRR.below hal) zW hLR (fun x hx => by rw [List.mem_singleton] at hx; subst hx; exact zn) (by simp only [List.length_singleton]; omega) hal.size
  have HRR := hide hRR
  have HAL := hide hal
  have HB3 := hide hb3
  clear hR3 hF3 hev3 hRR hal hb3 hih2 hLR
  go_wp2_with (go_at_call 41; refine hclo.mono ?_; rintro e w4 ⟨v4, out, rfl, hcl, hown, hb4⟩)
  refine bodyPost_ret (results_tmp2 rfl _ _ _) rfl ?_
  unfold MadeP
  rw [HAE.out, HKE.out]
  refine ⟨_, v4, out, w3.heap.size, rfl, (HRR.out.below HAL.out).below (hb4.mono HAL.out.size), Nat.le_trans HAL.out.size hb4.size, hcl, LRow.of_own hown, (HB3.out.trans (HAL.out.mono HB3.out.size)).trans (hb4.mono (Nat.le_trans HB3.out.size HAL.out.size))⟩
end Go.Proofs.YtiekhoehkgmbjaaDoor
