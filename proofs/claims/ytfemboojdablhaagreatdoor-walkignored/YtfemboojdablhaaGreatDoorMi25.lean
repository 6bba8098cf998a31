/- Merged: IbA0, IbG. -/
import Derived.Test.YtfemboojdablhaaGreatDoorMi23
import Derived.Test.YtfemboojdablhaaGreatDoorMi24
namespace Go.Proofs.YtfemboojdablhaaGreatDoor
open Tre (NodeD dirD nameIs kidOf)
def dirsD (L : List NodeD) : Nat → Nat → ByteArray → List (Nat × ByteArray)
  | 0, _, _ => []
  | f + 1, k, way => match L[k]? with
    | some n => if 0 ≤ n.up ∧ n.up < (k : Int) then (n.up.toNat, way) :: (match L[n.up.toNat]? with
        | some m => dirsD L f n.up.toNat (joinS m.name way)
        | none => []) else []
    | none => []
def nameD (L : List NodeD) (k : Nat) : ByteArray := match L[k]? with
  | some n => n.name
  | none => ⟨#[]⟩
def dirsK (L : List NodeD) (k : Nat) : List (Nat × ByteArray) := dirsD L (k + 1) k (nameD L k)
def isDirK (L : List NodeD) (k : Nat) : Bool := match L[k]? with
  | some n => dirD n
  | none => false
structure TOK (L : List NodeD) : Prop where
  len : L.length ≤ 201
  root : ∀ n, L[0]? = some n → n.up = -1
  up : ∀ (i : Nat) (n : NodeD), L[i]? = some n → 0 < i → ∃ a : Nat, n.up = (a : Int) ∧ a < i ∧ ∃ m, L[a]? = some m ∧ dirD m = true
  name : ∀ (i : Nat) (n : NodeD), L[i]? = some n → n.name.size ≤ 60
  text : ∀ (i : Nat) (n : NodeD), L[i]? = some n → n.text.size ≤ 20000
  kids : ∀ (i : Nat) (n : NodeD), L[i]? = some n → n.kids.length ≤ 1000 ∧ ∀ c ∈ n.kids, c < L.length
theorem name_size {s : ByteArray} (h : Tre.nameOk s = true) : s.size ≤ 60 := by
  unfold Tre.nameOk at h
  simp only [Bool.and_eq_true, decide_eq_true_eq] at h
  exact h.1.1.1.2
theorem last_ok {way : ByteArray} (h : (Tre.cutS 47 way).all Tre.nameOk = true) : Tre.nameOk (Tre.lastS way) = true := by
  unfold Tre.lastS Tre.lastL
  have hne := Tre.split_ne 47 way.data.toList
  rw [List.getLast?_eq_some_getLast hne]
  exact List.all_eq_true.1 h _ (List.mem_map_of_mem (List.getLast_mem hne))
theorem tok_of {R L : List NodeD} {K : List ByteArray} (h : Tre.KInv R K) (hs : Tre.Srt R L) : TOK L := by
  refine ⟨by rw [hs.len]; exact h.lim, ?_, ?_, ?_, ?_, ?_⟩
  · intro n hn
    obtain ⟨m, hm, e, _, _⟩ := hs.back hn
    rw [e]; exact (h.root m hm).1
  · intro i n hn hi
    obtain ⟨m, hm, e, _, _⟩ := hs.back hn
    obtain ⟨way, a, _, _, _, h4, h5, _⟩ := h.node i m hm hi
    have hal : a < R.length := Nat.lt_trans h5 (List.getElem?_eq_some_iff.1 hm).1
    obtain ⟨x, hx⟩ : ∃ x, R[a]? = some x := ⟨_, List.getElem?_eq_getElem hal⟩
    obtain ⟨ks, hk1, hk2, _⟩ := hs.node a x hx
    refine ⟨a, by rw [e]; exact h4, h5, _, hk1, ?_⟩
    have hin : i ∈ x.kids := (h.kids a x hx i).2 ⟨hi, m, hm, h4⟩
    exact h.dir a x hx (fun e2 => by rw [e2] at hin; cases hin)
  · intro i n hn
    obtain ⟨m, hm, e, _, _⟩ := hs.back hn
    have e1 : n.name = m.name := by rw [e]; rfl
    rw [e1]
    by_cases hi : 0 < i
    · obtain ⟨way, a, _, h2, h3, _⟩ := h.node i m hm hi
      rw [h3]
      exact name_size (last_ok h2)
    · obtain rfl : i = 0 := by omega
      rw [(h.root m hm).2.1]
      exact Nat.zero_le _
  · intro i n hn
    obtain ⟨m, hm, e, _, _⟩ := hs.back hn
    have e1 : n.text = m.text := by rw [e]; rfl
    rw [e1]; exact h.text i m hm
  · intro i n hn
    obtain ⟨m, hm, e, hp, _⟩ := hs.back hn
    refine ⟨?_, fun c hc => ?_⟩
    · rw [hp.length_eq]
      have h1 := h.klen i m hm
      have h2 := h.lim
      omega
    · rw [hs.len]
      exact h.kid_lt hm c (hp.mem_iff.1 hc)
theorem tok_nil : TOK [] := ⟨by simp, fun n h => by simp at h, fun i n h => by simp at h, fun i n h => by simp at h, fun i n h => by simp at h, fun i n h => by simp at h⟩
theorem dirs_root {L : List NodeD} (h : TOK L) : dirsK L 0 = [] := by
  unfold dirsK dirsD
  cases hn : L[0]? with
  | none => rfl
  | some n =>
    dsimp only
    rw [if_neg]
    have := h.root n hn
    omega
end Go.Proofs.YtfemboojdablhaaGreatDoor
namespace Go.Proofs.YtfemboojdablhaaGreatDoor
open Go.RowKit Go.Shelf
attribute [local go_sem] Oper.semAt_some
theorem backB_any (a : Option Addr) (n c : Nat) (w : World) : Calls Tryz.prog 192 #[.slice a n c] w fun e w' => e = .returned (.func (.func 225) #[] #[.pointer (some ⟨w.heap.size, 0, none⟩)]) ∧ w' = w.alloc (.cells #[.slice a n c] 83) := by
  go_enter Tryz.func192, Tryz.ntmps192
  go_wp2
  go_ret
  exact ⟨rfl, rfl⟩
def anyL : List Bool → List Bool
  | [] => []
  | b :: l => (b || (anyL l).headD false) :: anyL l
theorem anyL_length (l : List Bool) : (anyL l).length = l.length := by
  induction l with
  | nil => rfl
  | cons b l ih => simp [anyL, ih]
def BRow (A : World) (g : Nat) (rs : List Bool) : Prop := A.heap[g]? = some (.cells (rs.map Value.bool).toArray 4 (0, 0))
theorem BRow.lt {A : World} {g : Nat} {rs : List Bool} (h : BRow A g rs) : g < A.heap.size := (Array.getElem?_eq_some_iff.1 h).1
theorem BRow.cell {A : World} {g : Nat} {rs : List Bool} (h : BRow A g rs) {i : Nat} {b : Bool} (hi : rs[i]? = some b) : A.cell? ⟨g, i, none⟩ = some (.bool b) := by
  unfold World.cell?
  rw [show A.heap[g]? = _ from h]
  simp [hi]
theorem BRow.fr {A : World} {g : Nat} {rs : List Bool} (h : BRow A g rs) (i : Nat) : A.frozen? ⟨g, i, none⟩ = false := by simp [World.frozen?, show A.heap[g]? = _ from h]
theorem BRow.set {A : World} {g : Nat} {rs : List Bool} (h : BRow A g rs) (i : Nat) (b : Bool) : BRow (A.setCell ⟨g, i, none⟩ (.bool b)) g (rs.set i b) := by
  obtain ⟨hlt, hk⟩ := Array.getElem?_eq_some_iff.1 h
  show (A.heap.modify g _)[g]? = _
  rw [Array.getElem?_eq_getElem (by rw [Array.size_modify]; exact hlt), Array.getElem_modify_self, hk]
  show some (Obj.cells ((rs.map Value.bool).toArray.setIfInBounds i (.bool b)) 4 (0, 0)) = _
  rw [List.setIfInBounds_toArray, List.map_set]
theorem BRow.keepN {N g : Nat} {C : Nat → Prop} {A A' : World} {rs : List Bool} (h : BRow A g rs) (hk : KeepC N C A A') (hN : g < N ∨ C g) : BRow A' g rs := (hk.block g h.lt hN).trans h
structure AnI (w : World) (g cap n0 : Nat) (rs : List Bool) (pre : List (Nat × Bool)) (C : Nat → Prop) (A : World) : Prop where
  cs : ∀ k, C k ↔ (k = g ∨ k = n0 + 1)
  b0 : Boxed A n0 83 (.slice (some ⟨g, 0, none⟩) rs.length cap)
  b1 : Boxed A (n0 + 1) 4 (.bool ((anyL (rs.drop (rs.length - pre.length))).headD false))
  row : BRow A g (rs.take (rs.length - pre.length) ++ anyL (rs.drop (rs.length - pre.length)))
  t : TurnC (fun k => k = g) C w A
  size : n0 + 3 ≤ A.heap.size
theorem anI_abide {w : World} {g cap n0 N : Nat} {rs : List Bool} (pre : List (Nat × Bool)) (hn : w.heap.size = n0) (hN : n0 + 3 ≤ N) (hg : g < n0) : Abide N (AnI w g cap n0 rs pre) := by
  constructor
  · intro C A h k hk
    rcases (h.cs k).1 hk with rfl | rfl
    · have := h.size; omega
    · have := h.size; omega
  · intro C A A' h hk
    exact ⟨h.cs, boxed_keepN h.b0 hk (by omega), boxed_keepN h.b1 hk (by omega), h.row.keepN hk (.inl (by omega)), h.t.keepN hk (by omega), Nat.le_trans h.size hk.size⟩
theorem any_step {rs : List Bool} {i : Nat} (h : i < rs.length) : anyL (rs.drop i) = (rs[i] || (anyL (rs.drop (i + 1))).headD false) :: anyL (rs.drop (i + 1)) := by
  rw [List.drop_eq_getElem_cons h]
  rfl
theorem revE_at {α : Type} {xs : List α} {pre : List (Nat × α)} {x : Nat × α} (h : pre ++ [x] <+: revE xs) : x.1 + pre.length + 1 = xs.length ∧ xs[x.1]? = some x.2 := by
  refine ⟨?_, revE_mem (mem_of_pre h)⟩
  obtain ⟨r, hr⟩ := h
  have e : (revE xs)[pre.length]? = some x := by rw [← hr]; simp
  unfold revE at e
  have hl : pre.length < xs.length := by
    have := congrArg List.length hr
    simp [revE] at this
    omega
  rw [List.getElem?_reverse (by simpa using hl)] at e
  simp only [List.length_map, List.length_zipIdx, List.getElem?_map, List.getElem?_zipIdx, Option.map_map, Option.map_eq_some_iff] at e
  obtain ⟨a, _, rfl⟩ := e
  simp
  omega
set_option maxRecDepth 100000 in
set_option maxHeartbeats 4000000 in
theorem addAny_any (g cap : Nat) (rs : List Bool) (w : World) (hr : BRow w g rs) (hl : rs.length ≤ 1000000) (hcap : rs.length ≤ cap) :
    Calls Tryz.prog 156 #[.slice (some ⟨g, 0, none⟩) rs.length cap] w fun e w' => (∃ v, e = .returned v) ∧ BRow w' g (anyL rs) ∧ TurnC (fun k => k = g) (fun k => k = g) w w' := by
  obtain ⟨n0, hn0⟩ : ∃ n, w.heap.size = n := ⟨_, rfl⟩
  have hg : g < n0 := by rw [← hn0]; exact hr.lt
  refine (callsIn_wide (n := 0)).1 ?_
  refine callsIn_of_wp_marks Tryz.func156 rfl trivial ?_ rfl
  simp only [Tryz.ntmps156, List.size_toArray, List.length_cons, List.length_nil, Nat.reduceAdd, Nat.reduceSub, Array.replicate_succ, Array.replicate_zero, List.push_toArray, List.append_toArray, List.nil_append, List.cons_append]
  gi_wp2_with fail
  refine ⟨trivial, rfl, CallsIn.mono (callsIn_wide.2 (backB_any _ _ _ _)) ?_⟩
  rintro e w' ⟨rfl, hw⟩
  rw [hw]
  clear hw w'
  gi_wp2_with fail
  obtain ⟨w1, hw1⟩ : ∃ w1, lay w [.cells #[.slice (some ⟨g, 0, none⟩) rs.length cap] 83, .cells #[.bool false] 4, .cells #[.slice (some ⟨g, 0, none⟩) rs.length cap] 83] = w1 := ⟨_, rfl⟩
  obtain ⟨z1, l1, f1⟩ := lay_facts [.cells #[.slice (some ⟨g, 0, none⟩) rs.length cap] 83, .cells #[.bool false] 4, .cells #[.slice (some ⟨g, 0, none⟩) rs.length cap] 83] w
  rw [hw1] at z1 l1 f1
  rw [hn0] at z1 l1 f1
  simp only [lay] at hw1
  rw [hw1]
  clear hw1
  replace z1 : w1.heap.size = n0 + 3 := z1
  have q0 : Boxed w1 n0 83 (.slice (some ⟨g, 0, none⟩) rs.length cap) := f1 0 _ rfl
  have q1 : Boxed w1 (n0 + 1) 4 (.bool false) := f1 1 _ rfl
  have q2 : Boxed w1 (n0 + 1 + 1) 83 (.slice (some ⟨g, 0, none⟩) rs.length cap) := f1 2 _ rfl
  have hr1 : BRow w1 g rs := (l1.block g hg).trans hr
  clear f1
  have hT1 : TurnC (fun k => k = g) (fun k => k = g ∨ k = n0 + 1) w w1 := ⟨l1.os, l1.tape, l1.output, l1.size, fun k hk _ => l1.block k (by omega), fun k hk => by
    rcases hk with rfl | rfl
    · exact .inl rfl
    · exact .inr (by omega)⟩
  refine range_out (gf := 225) (lb := #[.pointer (some ⟨n0 + 1 + 1, 0, none⟩)]) rfl (enters_of Tryz.func225 (by kernel_rfl) rfl) (backB_hands (n0 + 1 + 1) (some ⟨g, 0, none⟩) cap rs hl) (fun _ => rfl)
    (fun k => k = g ∨ k = n0 + 1) (AnI w g cap n0 rs) (fun _ _ => False) (fun pre => anI_abide pre hn0 (by omega) hg) ⟨fun _ _ h => h.elim, fun _ _ _ h _ => h⟩
    ⟨fun _ => Iff.rfl, q0, by simpa [anyL] using q1, by simpa [anyL] using hr1, hT1, by omega⟩ (fun W hB => ⟨boxed_below q2 hB (by omega), fun q => by omega⟩)
    (fun pre x C A hp hI => ⟨g, rfl, hcap, by
      obtain ⟨e1, e2⟩ := revE_at hp
      refine hI.row.cell ?_
      have hlt : x.1 < rs.length := (List.getElem?_eq_some_iff.1 e2).1
      rw [List.getElem?_append_left (by rw [List.length_take]; omega), List.getElem?_take_of_lt (by omega)]
      exact e2⟩) ?round ?done ?stop
  case round =>
    clear q0 q1 q2 hr1 hT1 hr
    rintro l2 pre ⟨i, b⟩ C W hl2 hrec hCl2 hpre hI
    obtain ⟨e1, e2⟩ := revE_at hpre
    dsimp only at e1 e2
    obtain ⟨hlt, e2⟩ := List.getElem?_eq_some_iff.1 e2
    simp only [encIB]
    gi_wp2
    refine ⟨Below.refl _ _, fun W2 hsw => ?_⟩
    have hI2 := (anI_abide (N := w1.heap.size) pre hn0 (by omega) hg).keep _ _ _ hI (hsw.keep hl2 hCl2)
    clear hI hsw hrec
    have hj : rs.length - pre.length = i + 1 := by omega
    have hj2 : rs.length - (pre ++ [(i, b)]).length = i := by simp; omega
    obtain ⟨cs, c0, c1, row, tt, sz⟩ := hI2
    rw [hj] at c1 row
    have hst := any_step hlt
    rw [e2] at hst
    obtain ⟨met, hmet⟩ : ∃ met, (anyL (rs.drop (i + 1))).headD false = met := ⟨_, rfl⟩
    rw [hmet] at c1 hst
    have k0 := c0.cell
    have k1 := c1.cell
    have f1 := c1.frozen
    have hne : g ≠ n0 + 1 := by omega
    have kg : W2.cell? ⟨g, i, none⟩ = some (.bool b) := row.cell (by rw [List.getElem?_append_left (by rw [List.length_take]; omega), List.getElem?_take_of_lt (by omega), List.getElem?_eq_getElem hlt, e2])
    have fg := row.fr i
    have hiI : (i : Int) < (rs.length : Int) := by omega
    have fin : ∀ (u : Bool) (a : Act), u = (b || met) → roundC (AnI w g cap n0 rs) (fun _ _ => False) C (pre ++ [(i, b)]) W2 .normal a ((W2.setCell ⟨n0 + 1, 0, none⟩ (.bool u)).setCell ⟨g, i, none⟩ (.bool u)) := by
      intro u a hu
      have row2 : BRow (W2.setCell ⟨n0 + 1, 0, none⟩ (.bool u)) g (rs.take (i + 1) ++ anyL (rs.drop (i + 1))) := (Below.heap_setCell _ _ _ g hne).trans row
      have t1 : TurnC C C W2 (W2.setCell ⟨n0 + 1, 0, none⟩ (.bool u)) := .setCell _ _ _ ((cs _).2 (.inr rfl))
      have t2 : TurnC C C (W2.setCell ⟨n0 + 1, 0, none⟩ (.bool u)) ((W2.setCell ⟨n0 + 1, 0, none⟩ (.bool u)).setCell ⟨g, i, none⟩ (.bool u)) := .setCell _ _ _ ((cs _).2 (.inl rfl))
      refine ⟨C, t1.trans t2, cs, ?_, ?_, ?_, tt.trans (t1.trans t2), Nat.le_trans sz (t1.trans t2).size⟩
      · exact boxed_turn t2 (boxed_turn (TurnC.setCell (C := fun k => k = n0 + 1) _ _ _ rfl) c0 (by omega)) (fun q => by rcases (cs _).1 q with q | q <;> omega)
      · rw [hj2, hst, ← hu]
        refine (Below.heap_setCell _ _ _ (n0 + 1) (Ne.symm hne)).trans ?_
        exact c1.set (.bool u)
      · rw [hj2, hst, ← hu]
        have h3 := row2.set i u
        have e3 : (rs.take (i + 1) ++ anyL (rs.drop (i + 1))).set i u = rs.take i ++ u :: anyL (rs.drop (i + 1)) := by
          rw [List.take_add_one, List.getElem?_eq_getElem hlt, List.append_assoc, List.set_append_right _ _ (by rw [List.length_take]; omega), List.length_take, Nat.min_eq_left (by omega), Nat.sub_self]
          rfl
        rw [e3] at h3
        exact h3
    have FIN := hide fin
    clear fin cs c0 c1 row tt sz hst hmet hj hj2 e1 e2 hpre
    cases met with
    | true =>
      gi_wp2
      exact FIN.out true _ (by simp)
    | false =>
      gi_wp2
      exact FIN.out b _ (by simp)
  case done =>
    rintro C W hz hC hI hK
    gi_wp2
    refine leave_end hK (results_none rfl _ _ _) ⟨⟨_, rfl⟩, ?_, ?_⟩
    · have hrow := hI.row
      have e : (revE rs).length = rs.length := by simp [revE]
      rw [e, Nat.sub_self, List.drop_zero, List.take_zero, List.nil_append] at hrow
      exact (World.putObj_heap_other (by omega)).trans hrow
    · have ht := hI.t
      exact ⟨ht.os, ht.tape, ht.output, by simpa using ht.size, fun k hk hc => (World.putObj_heap_other (by omega)).trans (ht.block k hk hc), fun k hk => .inl hk⟩
  case stop =>
    rintro C W hz hC hI hK
    exact hI.elim
end Go.Proofs.YtfemboojdablhaaGreatDoor
