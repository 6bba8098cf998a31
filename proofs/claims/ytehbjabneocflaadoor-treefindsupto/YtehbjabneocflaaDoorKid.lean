/- The reference's kid, isDir, append2. -/
import Derived.Test.YtehbjabneocflaaDoorNodes
import Derived.Test.YtehbjabneocflaaDoorLawJoins
namespace Go.Proofs.YtehbjabneocflaaDoor
open Go.RowKit

/-- A node's number c has that name. -/
def nameIs (L : List NodeD) (name : ByteArray) (c : Nat) : Bool := match L[c]? with
  | some m => m.name.toList == name.toList
  | none => false
/-- The first of the Kids that has the name; -1: none. -/
def kidOf (L : List NodeD) (ks : List Nat) (name : ByteArray) : Int := match ks.find? (nameIs L name) with
  | some c => (c : Int)
  | none => -1
theorem kidOf_hit {L : List NodeD} {ks : List Nat} {name : ByteArray} {j c : Nat} (hj : ks[j]? = some c) (hno : ∀ x ∈ ks.take j, nameIs L name x = false) (hc : nameIs L name c = true) : kidOf L ks name = (c : Int) := by
  have hlt := (List.getElem?_eq_some_iff.1 hj).1
  have he := (List.getElem?_eq_some_iff.1 hj).2
  have e : ks = ks.take j ++ c :: ks.drop (j + 1) := by
    rw [← he, ← List.drop_eq_getElem_cons hlt, List.take_append_drop]
  unfold kidOf
  rw [e, List.find?_append]
  have : (ks.take j).find? (nameIs L name) = none := by
    rw [List.find?_eq_none]; intro x hx; simp [hno x hx]
  rw [this]
  simp [hc]
theorem kidOf_none {L : List NodeD} {ks : List Nat} {name : ByteArray} (hno : ∀ x ∈ ks, nameIs L name x = false) : kidOf L ks name = -1 := by
  unfold kidOf
  have : ks.find? (nameIs L name) = none := by
    rw [List.find?_eq_none]; intro x hx; simp [hno x hx]
  rw [this]
theorem ret_i {a b : Int} (h : a = b) : Ending.returned (.int .i64 a) = .returned (.int .i64 b) := by rw [h]
theorem take_more {ks : List Nat} {j c : Nat} (hj : ks[j]? = some c) {P : Nat → Prop} (h : ∀ x ∈ ks.take j, P x) (hc : P c) : ∀ x ∈ ks.take (j + 1), P x := by
  have hlt := (List.getElem?_eq_some_iff.1 hj).1
  have he := (List.getElem?_eq_some_iff.1 hj).2
  intro x hx
  rw [List.take_succ_eq_append_getElem hlt, he, List.mem_append] at hx
  rcases hx with hx | hx
  · exact h x hx
  · simp at hx; subst hx; exact hc

set_option maxHeartbeats 1000000 in
theorem kid_any (C : Nat) (v : Value) (L : List NodeD) (k : Nat) (n : NodeD) (name : ByteArray) (w : World) (hL : L.length ≤ 1000) (hrow : NodeRow C w v L) (hk : L[k]? = some n) (hkids : ∀ c ∈ n.kids, c < L.length) (hkl : n.kids.length ≤ 1000) :
    Calls Tryd.prog 40 #[v, .int .i64 k, .string name] w fun e w' => e = .returned (.int .i64 (kidOf L n.kids name)) ∧ w' = w := by
  have hkl2 := (List.getElem?_eq_some_iff.1 hk).1
  rcases hrow with ⟨_, rfl⟩ | ⟨g, cap, rfl, hg, hcap, hx⟩
  · simp at hk
  obtain ⟨kv, hat, hint⟩ := hx k n hk
  have h6 := hat.2.2.2.2.2.2
  have h1 : ∀ c, c < L.length → ∃ m, L[c]? = some m ∧ w.cell? ⟨g, c * 7 + 1, none⟩ = some (.string m.name) := by
    intro c hc
    obtain ⟨m, hm⟩ : ∃ m, L[c]? = some m := ⟨_, List.getElem?_eq_getElem hc⟩
    obtain ⟨kv, ha, _⟩ := hx c m hm
    exact ⟨m, hm, ha.2.1⟩
  clear hx hat
  rcases hint with ⟨rfl, he⟩ | ⟨g2, cap2, rfl, hg2, hcap2, hx2⟩
  · have HE : Hid (kidOf L n.kids name = -1) := by rw [he]; rfl
    clear h1
    go_enter Tryd.func40, Tryd.ntmps40
    go_wp2
    refine wp_loop_rounds 1 ?_
    rw [rounds_succ]
    go_wp2
    go_ret
    exact ⟨ret_i HE.out.symm, rfl⟩
  · go_enter Tryd.func40, Tryd.ntmps40
    go_wp2
    go_loop [7] (fun iv => ∃ j : Nat, j ≤ n.kids.length ∧ iv = .int .i64 j ∧ ∀ x ∈ n.kids.take j, nameIs L name x = false) (fun iv => n.kids.length - (intOf iv).toNat)
    case atStart => exact ⟨0, Nat.zero_le _, rfl, by simp⟩
    case round =>
      obtain ⟨j, hj, rfl, hno⟩ := hrel
      by_cases hlt : j < n.kids.length
      · obtain ⟨c, hc⟩ : ∃ c, n.kids[j]? = some c := ⟨_, List.getElem?_eq_getElem hlt⟩
        have hcl := hkids c (List.mem_of_getElem? hc)
        have hc2 := hx2 j c hc
        obtain ⟨m, hm, hmn⟩ := h1 c hcl
        have HN : Hid (nameIs L name c = (m.name.toList == name.toList)) := by unfold Hid nameIs; rw [hm]
        have HNO : Hid (∀ x ∈ n.kids.take j, nameIs L name x = false) := hno
        have HC : Hid (n.kids[j]? = some c) := hc
        clear hno hc hx2 h1 hm hkids
        cases hE : (m.name.toList == name.toList)
        · go_wp2
          go_round
          case rel => exact ⟨j + 1, by omega, by go_num, take_more HC.out HNO.out (by rw [HN.out, hE])⟩
          case measure => simp [intOf]; omega
        · go_wp2
          go_ret
          exact ⟨ret_i (kidOf_hit HC.out HNO.out (by rw [HN.out, hE])).symm, rfl⟩
      · obtain rfl : j = n.kids.length := by omega
        have HE : Hid (kidOf L n.kids name = -1) := kidOf_none (by rw [List.take_length] at hno; exact hno)
        clear hno h1 hx2
        go_wp2
        go_ret
        exact ⟨ret_i HE.out.symm, rfl⟩

def dirD (n : NodeD) : Bool := n.kind == 100 || n.kind == 120
set_option maxHeartbeats 1000000 in
theorem isDir_any (n : NodeD) (kv : Value) (w : World) :
    Calls Tryd.prog 41 #[.agg #[.int .u8 n.kind, .string n.name, .int .i64 n.up, .int .i64 n.size, .int .i64 n.time, .string n.text, kv]] w fun e w' => e = .returned (.bool (dirD n)) ∧ Below w.heap.size w w' := by
  cases h1 : (n.kind == 100)
  · cases h2 : (n.kind == 120)
    · have HD : Hid (dirD n = false) := by unfold Hid dirD; rw [h1, h2]; rfl
      go_enter Tryd.func41, Tryd.ntmps41
      go_wp2
      go_ret
      exact ⟨by rw [HD.out]; rfl, (Below.refl _ _).alloc (Nat.le_refl _) _⟩
    · have HD : Hid (dirD n = true) := by unfold Hid dirD; rw [h1, h2]; rfl
      go_enter Tryd.func41, Tryd.ntmps41
      go_wp2
      go_ret
      exact ⟨by rw [HD.out]; rfl, (Below.refl _ _).alloc (Nat.le_refl _) _⟩
  · have HD : Hid (dirD n = true) := by unfold Hid dirD; rw [h1]; rfl
    go_enter Tryd.func41, Tryd.ntmps41
    go_wp2
    go_ret
    exact ⟨by rw [HD.out]; rfl, (Below.refl _ _).alloc (Nat.le_refl _) _⟩

/-- 'append(out, row...)' of numbers, the row nil or not. -/
theorem wpList_append_ints {w : World} {ops : Array Oper} {rest : List Oper} {o : Oper} {a : Act} {Q : Exit → Act → World → Prop} (hgd : o.guard = none) (s x : Operand)
    (ho : o.op = .call { callee := .builtin .append, args := #[s, x], argTypes := #[42, 42] }) (B C : Nat) (v u : Value) (xs ys : List Nat) (hs : a.eval s = v) (hown : w.ownsRow B 3 1 v xs.length (ints xs))
    (hx : a.eval x = u) (hu : IntRow C w u ys) (hl : xs.length + ys.length ≤ 4294967296) (hB : B ≤ w.heap.size)
    (h : ∀ v' w', w'.ownsRow B 3 1 v' (xs ++ ys).length (ints (xs ++ ys)) → w.grownBy w' v.ownBlock → wpList Tryd.prog ops Q rest (a.put o.dst v') w') : wpList Tryd.prog ops Q (o :: rest) a w := by
  obtain ⟨i0, hi, hz0, hz1, hz2⟩ := info_parts Tryd.info3
  rcases hu with ⟨rfl, rfl⟩ | ⟨g, cap, rfl, hg, hcap, hcell⟩
  · refine wpList_append_own_none hgd s x 42 ho B 3 i0 1 Tryd.underlying42 hi v xs.length _ hs hown hx (h v w ?_ ⟨rfl, rfl, rfl, Nat.le_refl _, fun _ _ _ => rfl⟩)
    rw [List.append_nil]; exact hown
  · refine wpList_append_own w hgd s x 42 ho B 3 i0 (.int .i64 0) 1 8 Tryd.underlying42 hi hz0 hz1 hz2 rfl (by decide) v xs.length _ hs hown ⟨g, 0, none⟩ ys.length cap (ints ys) hx (by simp [ints]) ?_ ?_ (by unfold maxLen; omega) (by omega) hB ?_
    · intro j y hj
      unfold ints at hj
      rw [List.getElem?_map] at hj
      cases e : ys[j]? with
      | none => rw [e] at hj; cases hj
      | some z =>
        rw [e] at hj
        cases hj
        rw [addr_add]; exact hcell j z e
    · intro y hy
      obtain ⟨z, _, rfl⟩ := List.mem_map.1 hy
      rfl
    · intro v' w' h1 h2 _
      refine h v' w' ?_ h2
      unfold ints
      rw [List.length_append, List.map_append]; exact h1

theorem ints_push {B : Nat} {w1 : World} {v' : Value} {xs : List Nat} {x : Nat} (h : w1.ownsRow B 3 1 v' (xs.length + 1) (ints xs ++ [Value.int .i64 (x : Int)])) :
    w1.ownsRow B 3 1 v' (xs ++ [x]).length (ints (xs ++ [x])) := by
  unfold ints at h ⊢
  rw [List.length_append, List.map_append]; exact h

set_option maxHeartbeats 1000000 in
theorem append2_any (C : Nat) (v : Value) (ks : List Nat) (k : Nat) (w : World) (hkl : ks.length ≤ 1000) (hrow : IntRow C w v ks) :
    Calls Tryd.prog 42 #[v, .int .i64 k] w fun e w' => ∃ v', e = .returned v' ∧ w'.ownsRow w.heap.size 3 1 v' (ks ++ [k]).length (ints (ks ++ [k])) ∧ Below w.heap.size w w' := by
  obtain ⟨i0, hi, hz0, hz1, hz2⟩ := info_parts Tryd.info3
  go_enter Tryd.func42, Tryd.ntmps42
  go_wp2_with (first | (at_builtin; refine wpList_append_ints rfl (.tmp 6) (.tmp 7) rfl w.heap.size C _ _ [] ks rfl (World.ownsRow_nil _ _ _ _) rfl hrow (by simp; omega) (Nat.le_refl _) ?_; intro v1 w1 hown1 hg1; simp only [List.nil_append] at hown1; have hb1 : Below w.heap.size w w1 := (Below.refl _ _).grown hg1 (Nat.le_refl _) (fun k e => by cases e); have hz1' := hb1.size) | (at_builtin; refine wpList_append_own _ rfl (.tmp 9) (.tmp 11) 42 rfl w.heap.size 3 i0 (.int .i64 0) 1 8 Tryd.underlying42 hi hz0 hz1 hz2 rfl (by decide) _ _ _ rfl (hown1.alloc _) ⟨w1.heap.size, 0, none⟩ 1 1 [.int .i64 (k : Int)] rfl rfl (cell_one_new _ _ _) (by simp [Value.oneCell']) (by unfold maxLen; omega) (by omega) (by simp; omega) ?_; intro v2 w2 hown2 hg2 _))
  go_ret
  refine ⟨_, rfl, ints_push hown2, (hb1.alloc hz1' _).grown hg2 (by simp; omega) (fun j e => (hown1.lt j e).1)⟩
end Go.Proofs.YtehbjabneocflaaDoor
