import Derived.Test.YtfemboojdablhaaGreatDoorMi27
import Derived.Test.YtfemboojdablhaaGreatDoorMi24
import Derived.Test.YtfemboojdablhaaGreatDoorMi28
import Derived.OneCell
import Derived.Laws.AppendOwnNone
namespace Go.Proofs.YtfemboojdablhaaGreatDoor.Tre
open Go.RowKit
theorem Tryz.info42 : (Tryz.prog.info? 42).map (fun i => (i.zero, i.size, i.bytes)) = some (some (.agg #[.int .u8 0, .string ⟨#[]⟩, .int .i64 0, .int .i64 0, .int .i64 0, .string ⟨#[]⟩, .slice none 0 0]), 7, 88) := by kernel_rfl
theorem Tryz.info68 : (Tryz.prog.info? 68).map (fun i => (i.zero, i.size, i.bytes)) = some (some (.agg #[.int .u8 0, .string ⟨#[]⟩, .int .i64 0, .int .i64 0, .int .i64 0, .string ⟨#[]⟩, .slice none 0 0]), 7, 88) := by kernel_rfl
theorem Tryz.info3 : (Tryz.prog.info? 3).map (fun i => (i.zero, i.size, i.bytes)) = some (some (.int .i64 0), 1, 8) := by kernel_rfl
theorem Tryz.info5 : (Tryz.prog.info? 5).map (fun i => (i.zero, i.size, i.bytes)) = some (some (.int .u8 0), 1, 1) := by kernel_rfl
def cells7 (p : NodeD × Value) : List Value := [.int .u8 p.1.kind, .string p.1.name, .int .i64 p.1.up, .int .i64 p.1.size, .int .i64 p.1.time, .string p.1.text, p.2]
def cellsL (l : List (NodeD × Value)) : List Value := l.flatMap cells7
def ints (ks : List Nat) : List Value := ks.map fun (k : Nat) => Value.int .i64 (k : Int)
theorem cells7_length (p : NodeD × Value) : (cells7 p).length = 7 := rfl
theorem cellsL_cons (p : NodeD × Value) (l : List (NodeD × Value)) : cellsL (p :: l) = cells7 p ++ cellsL l := by simp [cellsL]
theorem cellsL_snoc (p : NodeD × Value) (l : List (NodeD × Value)) : cellsL (l ++ [p]) = cellsL l ++ cells7 p := by simp [cellsL]
theorem cellsL_length (l : List (NodeD × Value)) : (cellsL l).length = l.length * 7 := by
  induction l with
  | nil => rfl
  | cons p l ih => rw [cellsL_cons, List.length_append, ih, cells7_length, List.length_cons]; omega
theorem cellsL_get (j : Nat) (hj : j < 7) : ∀ (l : List (NodeD × Value)) (i : Nat) (p : NodeD × Value), l[i]? = some p → (cellsL l)[i * 7 + j]? = (cells7 p)[j]? := by
  intro l
  induction l with
  | nil => intro i p h; simp at h
  | cons q l ih =>
    intro i p h
    rw [cellsL_cons]
    cases i with
    | zero =>
      simp at h; subst h
      rw [List.getElem?_append_left (by rw [cells7_length]; omega)]
      congr 1; omega
    | succ i =>
      rw [List.getElem?_cons_succ] at h
      rw [List.getElem?_append_right (by rw [cells7_length]; omega), cells7_length, show (i + 1) * 7 + j - 7 = i * 7 + j from by omega]
      exact ih i p h
theorem cellsL_set (u : Value) : ∀ (l : List (NodeD × Value)) (i : Nat) (n : NodeD) (kv : Value), l[i]? = some (n, kv) → (cellsL l).set (i * 7 + 6) u = cellsL (l.set i (n, u)) := by
  intro l
  induction l with
  | nil => intro i n kv h; simp at h
  | cons q l ih =>
    intro i n kv h
    cases i with
    | zero =>
      simp at h; subst h
      rw [List.set_cons_zero, cellsL_cons, cellsL_cons, List.set_append_left _ _ (by rw [cells7_length]; omega)]
      rfl
    | succ i =>
      rw [List.getElem?_cons_succ] at h
      rw [List.set_cons_succ, cellsL_cons, cellsL_cons, List.set_append_right _ _ (by rw [cells7_length]; omega), cells7_length, show (i + 1) * 7 + 6 - 7 = i * 7 + 6 from by omega, ih i n kv h]
def NodeAt (W : World) (g i : Nat) (n : NodeD) (kv : Value) : Prop :=
  W.cell? ⟨g, i * 7, none⟩ = some (.int .u8 n.kind) ∧ W.cell? ⟨g, i * 7 + 1, none⟩ = some (.string n.name) ∧ W.cell? ⟨g, i * 7 + 2, none⟩ = some (.int .i64 n.up) ∧
  W.cell? ⟨g, i * 7 + 3, none⟩ = some (.int .i64 n.size) ∧ W.cell? ⟨g, i * 7 + 4, none⟩ = some (.int .i64 n.time) ∧ W.cell? ⟨g, i * 7 + 5, none⟩ = some (.string n.text) ∧ W.cell? ⟨g, i * 7 + 6, none⟩ = some kv
def IntRow (C : Nat) (W : World) (v : Value) (ks : List Nat) : Prop :=
  (v = .slice none 0 0 ∧ ks = []) ∨ ∃ g cap, v = .slice (some ⟨g, 0, none⟩) ks.length cap ∧ g < C ∧ ks.length ≤ cap ∧ ∀ (j k : Nat), ks[j]? = some k → W.cell? ⟨g, j, none⟩ = some (.int .i64 (k : Int))
def NodeRow (C : Nat) (W : World) (v : Value) (L : List NodeD) : Prop :=
  (v = .slice none 0 0 ∧ L = []) ∨ ∃ g cap, v = .slice (some ⟨g, 0, none⟩) L.length cap ∧ g < C ∧ L.length ≤ cap ∧ ∀ (i : Nat) (n : NodeD), L[i]? = some n → ∃ kv, NodeAt W g i n kv ∧ IntRow C W kv n.kids
theorem IntRow.below {C : Nat} {W W' : World} {v : Value} {ks : List Nat} (h : IntRow C W v ks) (hb : Below C W W') : IntRow C W' v ks := by
  rcases h with h | ⟨g, cap, rfl, hg, hc, hx⟩
  · exact .inl h
  · exact .inr ⟨g, cap, rfl, hg, hc, fun j x hj => (hb.cell (p := ⟨g, j, none⟩) hg).trans (hx j x hj)⟩
theorem NodeAt.below {C g i : Nat} {W W' : World} {n : NodeD} {kv : Value} (h : NodeAt W g i n kv) (hb : Below C W W') (hg : g < C) : NodeAt W' g i n kv := by
  obtain ⟨a, b, c, d, e, f, k⟩ := h
  exact ⟨(hb.cell (p := ⟨g, _, none⟩) hg).trans a, (hb.cell (p := ⟨g, _, none⟩) hg).trans b, (hb.cell (p := ⟨g, _, none⟩) hg).trans c, (hb.cell (p := ⟨g, _, none⟩) hg).trans d, (hb.cell (p := ⟨g, _, none⟩) hg).trans e, (hb.cell (p := ⟨g, _, none⟩) hg).trans f, (hb.cell (p := ⟨g, _, none⟩) hg).trans k⟩
theorem NodeRow.below {C : Nat} {W W' : World} {v : Value} {L : List NodeD} (h : NodeRow C W v L) (hb : Below C W W') : NodeRow C W' v L := by
  rcases h with h | ⟨g, cap, rfl, hg, hc, hx⟩
  · exact .inl h
  · refine .inr ⟨g, cap, rfl, hg, hc, fun i n hi => ?_⟩
    obtain ⟨kv, h1, h2⟩ := hx i n hi
    exact ⟨kv, h1.below hb hg, h2.below hb⟩
theorem IntRow.of_owns {B : Nat} {W : World} {v : Value} {ks : List Nat} (h : W.ownsRow B 3 1 v ks.length (ints ks)) : IntRow W.heap.size W v ks := by
  rcases h.2 with ⟨rfl, h2⟩ | ⟨g, cap, cur, rfl, hb, hg, hn, _, hs, ht⟩
  · exact .inl ⟨rfl, List.eq_nil_of_length_eq_zero h2⟩
  · refine .inr ⟨g, cap, rfl, (Array.getElem?_eq_some_iff.1 hg).1, hn, fun j x hj => ?_⟩
    have hj' : j < ks.length := (List.getElem?_eq_some_iff.1 hj).1
    have e1 : (cur.toList.take (ks.length * 1))[j]? = some (.int .i64 (x : Int)) := by rw [ht]; unfold ints; rw [List.getElem?_map, hj]; rfl
    rw [List.getElem?_take_of_lt (by omega)] at e1
    simp only [World.cell?, hg]
    simpa using e1
def Owned (t B : Nat) (W : World) (v : Value) (l : List (NodeD × Value)) : Prop :=
  W.ownsRow B t 7 v l.length (cellsL l) ∧ ∀ p ∈ l, W.ownsRow B 3 1 p.2 p.1.kids.length (ints p.1.kids)
theorem row_cell {t B n : Nat} {W : World} {v : Value} {xs : List Value} (h : W.ownsRow B t 7 v n xs) {g cap : Nat} (e : v = .slice (some ⟨g, 0, none⟩) n cap) {i : Nat} {u : Value} (hi : xs[i]? = some u) : W.cell? ⟨g, i, none⟩ = some u := by
  subst e
  rcases h.2 with ⟨e, _⟩ | ⟨g', cap', cur, e, _, hg, _, _, hs, ht⟩
  · cases e
  · cases e
    have hlt : i < n * 7 := by
      have := (List.getElem?_eq_some_iff.1 hi).1
      rw [h.1] at this; exact this
    rw [← ht, List.getElem?_take_of_lt hlt] at hi
    simp only [World.cell?, hg]
    simpa using hi
theorem Owned.node {t B : Nat} {W : World} {v : Value} {l : List (NodeD × Value)} (h : Owned t B W v l) {g cap : Nat} (e : v = .slice (some ⟨g, 0, none⟩) l.length cap) {i : Nat} {p : NodeD × Value} (hi : l[i]? = some p) : NodeAt W g i p.1 p.2 := by
  have c : ∀ j (hj : j < 7) u, (cells7 p)[j]? = some u → W.cell? ⟨g, i * 7 + j, none⟩ = some u := fun j hj u hu =>
    row_cell h.1 e ((cellsL_get j hj l i p hi).trans hu)
  exact ⟨c 0 (by omega) _ rfl, c 1 (by omega) _ rfl, c 2 (by omega) _ rfl, c 3 (by omega) _ rfl, c 4 (by omega) _ rfl, c 5 (by omega) _ rfl, c 6 (by omega) _ rfl⟩
theorem Owned.row {t B : Nat} {W : World} {v : Value} {l : List (NodeD × Value)} (h : Owned t B W v l) : NodeRow W.heap.size W v (l.map (·.1)) := by
  rcases h.1.2 with ⟨rfl, h2⟩ | ⟨g, cap, cur, rfl, hb, hg, hn, _, hs, ht⟩
  · refine .inl ⟨rfl, ?_⟩
    rw [List.eq_nil_of_length_eq_zero h2]; rfl
  · refine .inr ⟨g, cap, by rw [List.length_map], (Array.getElem?_eq_some_iff.1 hg).1, by rw [List.length_map]; exact hn, fun i n hi => ?_⟩
    rw [List.getElem?_map] at hi
    cases hp : l[i]? with
    | none => rw [hp] at hi; cases hi
    | some p =>
      rw [hp] at hi
      cases hi
      exact ⟨p.2, h.node rfl hp, IntRow.of_owns (h.2 p (List.mem_of_getElem? hp))⟩
end Go.Proofs.YtfemboojdablhaaGreatDoor.Tre
namespace Go.Proofs.YtfemboojdablhaaGreatDoor.Tre
open Go.RowKit
theorem kidOf_hit {L : List NodeD} {ks : List Nat} {name : ByteArray} {j c : Nat} (hj : ks[j]? = some c) (hno : ∀ x ∈ ks.take j, nameIs L name x = false) (hc : nameIs L name c = true) : kidOf L ks name = (c : Int) := by
  have hlt := (List.getElem?_eq_some_iff.1 hj).1
  have he := (List.getElem?_eq_some_iff.1 hj).2
  have e : ks = ks.take j ++ c :: ks.drop (j + 1) := by
    rw [← he, ← List.drop_eq_getElem_cons hlt, List.take_append_drop]
  unfold kidOf
  rw [e, List.find?_append]
  have : (ks.take j).find? (nameIs L name) = none := by
    rw [List.find?_eq_none]; intro x hx; simp [hno x hx]
  rw [this]
  simp [hc]
theorem kidOf_none {L : List NodeD} {ks : List Nat} {name : ByteArray} (hno : ∀ x ∈ ks, nameIs L name x = false) : kidOf L ks name = -1 := by
  unfold kidOf
  have : ks.find? (nameIs L name) = none := by
    rw [List.find?_eq_none]; intro x hx; simp [hno x hx]
  rw [this]
theorem ret_i {a b : Int} (h : a = b) : Ending.returned (.int .i64 a) = .returned (.int .i64 b) := by rw [h]
theorem take_more {ks : List Nat} {j c : Nat} (hj : ks[j]? = some c) {P : Nat → Prop} (h : ∀ x ∈ ks.take j, P x) (hc : P c) : ∀ x ∈ ks.take (j + 1), P x := by
  have hlt := (List.getElem?_eq_some_iff.1 hj).1
  have he := (List.getElem?_eq_some_iff.1 hj).2
  intro x hx
  rw [List.take_succ_eq_append_getElem hlt, he, List.mem_append] at hx
  rcases hx with hx | hx
  · exact h x hx
  · simp at hx; subst hx; exact hc
set_option maxHeartbeats 1000000 in
theorem kid_any (C : Nat) (v : Value) (L : List NodeD) (k : Nat) (n : NodeD) (name : ByteArray) (w : World) (hL : L.length ≤ 1000) (hrow : NodeRow C w v L) (hk : L[k]? = some n) (hkids : ∀ c ∈ n.kids, c < L.length) (hkl : n.kids.length ≤ 1000) :
    Calls Tryz.prog 33 #[v, .int .i64 k, .string name] w fun e w' => e = .returned (.int .i64 (kidOf L n.kids name)) ∧ w' = w := by
  have hkl2 := (List.getElem?_eq_some_iff.1 hk).1
  rcases hrow with ⟨_, rfl⟩ | ⟨g, cap, rfl, hg, hcap, hx⟩
  · simp at hk
  obtain ⟨kv, hat, hint⟩ := hx k n hk
  have h6 := hat.2.2.2.2.2.2
  have h1 : ∀ c, c < L.length → ∃ m, L[c]? = some m ∧ w.cell? ⟨g, c * 7 + 1, none⟩ = some (.string m.name) := by
    intro c hc
    obtain ⟨m, hm⟩ : ∃ m, L[c]? = some m := ⟨_, List.getElem?_eq_getElem hc⟩
    obtain ⟨kv, ha, _⟩ := hx c m hm
    exact ⟨m, hm, ha.2.1⟩
  clear hx hat
  rcases hint with ⟨rfl, he⟩ | ⟨g2, cap2, rfl, hg2, hcap2, hx2⟩
  · have HE : Hid (kidOf L n.kids name = -1) := by rw [he]; rfl
    clear h1
    go_enter Tryz.func33, Tryz.ntmps33
    go_wp2
    refine wp_loop_rounds 1 ?_
    rw [rounds_succ]
    go_wp2
    go_ret
    exact ⟨ret_i HE.out.symm, rfl⟩
  · go_enter Tryz.func33, Tryz.ntmps33
    go_wp2
    go_loop [7] (fun iv => ∃ j : Nat, j ≤ n.kids.length ∧ iv = .int .i64 j ∧ ∀ x ∈ n.kids.take j, nameIs L name x = false) (fun iv => n.kids.length - (intOf iv).toNat)
    case atStart => exact ⟨0, Nat.zero_le _, rfl, by simp⟩
    case round =>
      obtain ⟨j, hj, rfl, hno⟩ := hrel
      by_cases hlt : j < n.kids.length
      · obtain ⟨c, hc⟩ : ∃ c, n.kids[j]? = some c := ⟨_, List.getElem?_eq_getElem hlt⟩
        have hcl := hkids c (List.mem_of_getElem? hc)
        have hc2 := hx2 j c hc
        obtain ⟨m, hm, hmn⟩ := h1 c hcl
        have HN : Hid (nameIs L name c = (m.name.toList == name.toList)) := by unfold Hid nameIs; rw [hm]
        have HNO : Hid (∀ x ∈ n.kids.take j, nameIs L name x = false) := hno
        have HC : Hid (n.kids[j]? = some c) := hc
        clear hno hc hx2 h1 hm hkids
        cases hE : (m.name.toList == name.toList)
        · go_wp2
          go_round
          case rel => exact ⟨j + 1, by omega, by go_num, take_more HC.out HNO.out (by rw [HN.out, hE])⟩
          case measure => simp [intOf]; omega
        · go_wp2
          go_ret
          exact ⟨ret_i (kidOf_hit HC.out HNO.out (by rw [HN.out, hE])).symm, rfl⟩
      · obtain rfl : j = n.kids.length := by omega
        have HE : Hid (kidOf L n.kids name = -1) := kidOf_none (by rw [List.take_length] at hno; exact hno)
        clear hno h1 hx2
        go_wp2
        go_ret
        exact ⟨ret_i HE.out.symm, rfl⟩
set_option maxHeartbeats 1000000 in
theorem isDir_any (n : NodeD) (kv : Value) (w : World) :
    Calls Tryz.prog 34 #[.agg #[.int .u8 n.kind, .string n.name, .int .i64 n.up, .int .i64 n.size, .int .i64 n.time, .string n.text, kv]] w fun e w' => e = .returned (.bool (dirD n)) ∧ Below w.heap.size w w' := by
  cases h1 : (n.kind == 100)
  · cases h2 : (n.kind == 120)
    · have HD : Hid (dirD n = false) := by unfold Hid dirD; rw [h1, h2]; rfl
      go_enter Tryz.func34, Tryz.ntmps34
      go_wp2
      go_ret
      exact ⟨by rw [HD.out]; rfl, (Below.refl _ _).alloc (Nat.le_refl _) _⟩
    · have HD : Hid (dirD n = true) := by unfold Hid dirD; rw [h1, h2]; rfl
      go_enter Tryz.func34, Tryz.ntmps34
      go_wp2
      go_ret
      exact ⟨by rw [HD.out]; rfl, (Below.refl _ _).alloc (Nat.le_refl _) _⟩
  · have HD : Hid (dirD n = true) := by unfold Hid dirD; rw [h1]; rfl
    go_enter Tryz.func34, Tryz.ntmps34
    go_wp2
    go_ret
    exact ⟨by rw [HD.out]; rfl, (Below.refl _ _).alloc (Nat.le_refl _) _⟩
theorem wpList_append_ints {w : World} {ops : Array Oper} {rest : List Oper} {o : Oper} {a : Act} {Q : Exit → Act → World → Prop} (hgd : o.guard = none) (s x : Operand)
    (ho : o.op = .call { callee := .builtin .append, args := #[s, x], argTypes := #[40, 40] }) (B C : Nat) (v u : Value) (xs ys : List Nat) (hs : a.eval s = v) (hown : w.ownsRow B 3 1 v xs.length (ints xs))
    (hx : a.eval x = u) (hu : IntRow C w u ys) (hl : xs.length + ys.length ≤ 4294967296) (hB : B ≤ w.heap.size)
    (h : ∀ v' w', w'.ownsRow B 3 1 v' (xs ++ ys).length (ints (xs ++ ys)) → w.grownBy w' v.ownBlock → wpList Tryz.prog ops Q rest (a.put o.dst v') w') : wpList Tryz.prog ops Q (o :: rest) a w := by
  obtain ⟨i0, hi, hz0, hz1, hz2⟩ := info_parts Tryz.info3
  rcases hu with ⟨rfl, rfl⟩ | ⟨g, cap, rfl, hg, hcap, hcell⟩
  · refine wpList_append_own_none hgd s x 40 ho B 3 i0 1 Tryz.underlying40 hi v xs.length _ hs hown hx (h v w ?_ ⟨rfl, rfl, rfl, Nat.le_refl _, fun _ _ _ => rfl⟩)
    rw [List.append_nil]; exact hown
  · refine wpList_append_own w hgd s x 40 ho B 3 i0 (.int .i64 0) 1 8 Tryz.underlying40 hi hz0 hz1 hz2 rfl (by decide) v xs.length _ hs hown ⟨g, 0, none⟩ ys.length cap (ints ys) hx (by simp [ints]) ?_ ?_ (by unfold maxLen; omega) (by omega) hB ?_
    · intro j y hj
      unfold ints at hj
      rw [List.getElem?_map] at hj
      cases e : ys[j]? with
      | none => rw [e] at hj; cases hj
      | some z =>
        rw [e] at hj
        cases hj
        rw [addr_add]; exact hcell j z e
    · intro y hy
      obtain ⟨z, _, rfl⟩ := List.mem_map.1 hy
      rfl
    · intro v' w' h1 h2 _
      refine h v' w' ?_ h2
      unfold ints
      rw [List.length_append, List.map_append]; exact h1
theorem ints_push {B : Nat} {w1 : World} {v' : Value} {xs : List Nat} {x : Nat} (h : w1.ownsRow B 3 1 v' (xs.length + 1) (ints xs ++ [Value.int .i64 (x : Int)])) :
    w1.ownsRow B 3 1 v' (xs ++ [x]).length (ints (xs ++ [x])) := by
  unfold ints at h ⊢
  rw [List.length_append, List.map_append]; exact h
set_option maxHeartbeats 1000000 in
theorem append2_any (C : Nat) (v : Value) (ks : List Nat) (k : Nat) (w : World) (hkl : ks.length ≤ 1000) (hrow : IntRow C w v ks) :
    Calls Tryz.prog 35 #[v, .int .i64 k] w fun e w' => ∃ v', e = .returned v' ∧ w'.ownsRow w.heap.size 3 1 v' (ks ++ [k]).length (ints (ks ++ [k])) ∧ Below w.heap.size w w' := by
  obtain ⟨i0, hi, hz0, hz1, hz2⟩ := info_parts Tryz.info3
  go_enter Tryz.func35, Tryz.ntmps35
  go_wp2_with (first | (at_builtin; refine wpList_append_ints rfl (.tmp 6) (.tmp 7) rfl w.heap.size C _ _ [] ks rfl (World.ownsRow_nil _ _ _ _) rfl hrow (by simp; omega) (Nat.le_refl _) ?_; intro v1 w1 hown1 hg1; simp only [List.nil_append] at hown1; have hb1 : Below w.heap.size w w1 := (Below.refl _ _).grown hg1 (Nat.le_refl _) (fun k e => by cases e); have hz1' := hb1.size) | (at_builtin; refine wpList_append_own _ rfl (.tmp 9) (.tmp 11) 40 rfl w.heap.size 3 i0 (.int .i64 0) 1 8 Tryz.underlying40 hi hz0 hz1 hz2 rfl (by decide) _ _ _ rfl (hown1.alloc _) ⟨w1.heap.size, 0, none⟩ 1 1 [.int .i64 (k : Int)] rfl rfl (cell_one_new _ _ _) (by simp [Value.oneCell']) (by unfold maxLen; omega) (by omega) (by simp; omega) ?_; intro v2 w2 hown2 hg2 _))
  go_ret
  refine ⟨_, rfl, ints_push hown2, (hb1.alloc hz1' _).grown hg2 (by simp; omega) (fun j e => (hown1.lt j e).1)⟩
end Go.Proofs.YtfemboojdablhaaGreatDoor.Tre
namespace Go.Proofs.YtfemboojdablhaaGreatDoor.Tre
open Go.RowKit
theorem own_set {B t size n m g cap i : Nat} {W : World} {xs : List Value} (h : W.ownsRow B t size (.slice (some ⟨g, 0, none⟩) m cap) n xs) (u : Value) : (W.setCell ⟨g, i, none⟩ u).ownsRow B t size (.slice (some ⟨g, 0, none⟩) m cap) n (xs.set i u) := by
  refine ⟨by rw [List.length_set]; exact h.1, ?_⟩
  rcases h.2 with ⟨e, _⟩ | ⟨g', cap', cur, e, hb, hg, hn, hm, hs, ht⟩
  · cases e
  · cases e
    obtain ⟨hlt, hk⟩ := Array.getElem?_eq_some_iff.1 hg
    refine .inr ⟨g, cap, cur.setIfInBounds i u, rfl, hb, ?_, hn, hm, by simpa using hs, ?_⟩
    · show (W.heap.modify g _)[g]? = _
      rw [Array.getElem?_eq_getElem (by rw [Array.size_modify]; exact hlt), Array.getElem_modify_self, hk]
      rfl
    · rw [Array.toList_setIfInBounds, List.take_set, ht]
theorem own_frozen {B t size n m g cap : Nat} {W : World} {xs : List Value} (h : W.ownsRow B t size (.slice (some ⟨g, 0, none⟩) m cap) n xs) (i : Nat) : W.frozen? ⟨g, i, none⟩ = false := by
  rcases h.2 with ⟨e, _⟩ | ⟨g', cap', cur, e, hb, hg, _⟩
  · cases e
  · cases e
    simp [World.frozen?, hg]
theorem own_apart {B B2 t t2 size size2 n n2 g : Nat} {W : World} {v v2 : Value} {xs xs2 : List Value} (h : W.ownsRow B t size v n xs) (h2 : W.ownsRow B2 t2 size2 v2 n2 xs2) (hne : t ≠ t2) (hg : v.ownBlock = some g) : v2.ownBlock ≠ some g := by
  intro e2
  rcases h.2 with ⟨rfl, _⟩ | ⟨g1, cap, cur, rfl, _, hc, _⟩
  · cases hg
  · rcases h2.2 with ⟨rfl, _⟩ | ⟨g2, cap2, cur2, rfl, _, hc2, _⟩
    · cases e2
    · simp only [Value.ownBlock, Option.some.injEq] at hg e2
      subst hg; subst e2
      rw [hc] at hc2
      cases hc2
      exact hne rfl
theorem own_keep {B t size n : Nat} {W W' : World} {v u : Value} {xs ys : List Value} {B2 t2 size2 n2 : Nat} (h : W.ownsRow B t size v n xs) (hu : W.ownsRow B2 t2 size2 u n2 ys) (hne : t ≠ t2) (hg : W.grownBy W' u.ownBlock) : W'.ownsRow B t size v n xs := by
  refine h.kept hg ?_
  cases e : v.ownBlock with
  | none => exact .inl rfl
  | some g =>
    refine .inr ?_
    have := own_apart h hu hne e
    intro e2; exact this e2.symm
theorem owns_below' {W W' : World} {B t size n : Nat} {v : Value} {xs : List Value} (h : W.ownsRow B t size v n xs) (hb : Below W.heap.size W W') : W'.ownsRow B t size v n xs := by
  refine ⟨h.1, ?_⟩
  rcases h.2 with h2 | ⟨g, cap, cur, e, hbb, hg, r⟩
  · exact .inl h2
  · exact .inr ⟨g, cap, cur, e, hbb, (hb.block g (Array.getElem?_eq_some_iff.1 hg).1).trans hg, r⟩
theorem owns_base' {W : World} {B B' t size n : Nat} {v : Value} {xs : List Value} (hB : B ≤ B') (h : W.ownsRow B' t size v n xs) : W.ownsRow B t size v n xs := by
  refine ⟨h.1, ?_⟩
  rcases h.2 with h2 | ⟨g, cap, cur, e, hbb, r⟩
  · exact .inl h2
  · exact .inr ⟨g, cap, cur, e, by omega, r⟩
theorem Owned.below {t B : Nat} {W W' : World} {v : Value} {l : List (NodeD × Value)} (h : Owned t B W v l) (hb : Below W.heap.size W W') : Owned t B W' v l :=
  ⟨owns_below' h.1 hb, fun p hp => owns_below' (h.2 p hp) hb⟩
end Go.Proofs.YtfemboojdablhaaGreatDoor.Tre
namespace Go.Proofs.YtfemboojdablhaaGreatDoor.Tre
open Go.RowKit
end Go.Proofs.YtfemboojdablhaaGreatDoor.Tre
