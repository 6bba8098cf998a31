/- The law PathJoins: path.Join, the reference's Join, the walk. -/
import Derived.Test.YtehbjabneocflaaDoorLawParts
import Derived.Test.YtehbjabneocflaaDoorJoin
import Derived.Laws.AppendOwnNone
namespace Go.Proofs.YtehbjabneocflaaDoor
open Go.RowKit

theorem suffix_eq {a : ByteArray} (h : 1 ≤ a.size) : ((a.extract (a.size - 1) a.size).toList == [47]) = endsSlash a := by
  rw [ends_get h, Bool.eq_iff_iff, beq_iff_eq, decide_eq_true_eq, ByteArray.toList_eq, extract_bs, data_bs, drop_get a (a.size - 1) (by omega), show a.size - (a.size - 1) = 1 from by omega]
  simp only [List.take_succ_cons, List.take_zero, List.cons.injEq, and_true]
  constructor
  · intro h; rw [h]; rfl
  · intro h; exact UInt8.toNat_inj.1 (by have : (47 : UInt8).toNat = 47 := rfl; omega)

set_option maxHeartbeats 1000000 in
theorem suffix_any (a : ByteArray) (w : World) (h1 : 1 ≤ a.size) (hs : a.size ≤ 1073741824) :
    Calls Tryd.prog 24 #[.string a, .string ⟨#[47]⟩] w fun e w' => e = .returned (.bool (endsSlash a)) ∧ w' = w := by
  have he := suffix_eq h1
  go_enter Tryd.func24, Tryd.ntmps24
  go_wp2
  go_ret
  exact ⟨rfl, rfl⟩

theorem join_plain {a b : ByteArray} (h : (a.toList.isEmpty || endsSlash a) = true) : a ++ b = joinS a b := by unfold joinS; rw [if_pos h]
theorem join_mid {a b : ByteArray} (h : (a.toList.isEmpty || endsSlash a) = false) : a ++ ⟨#[47]⟩ ++ b = joinS a b := by unfold joinS; rw [h]; rfl

set_option maxHeartbeats 1000000 in
theorem join_any (a b : ByteArray) (w : World) (ha : a.size ≤ 1073741824) (hb : b.size ≤ 1073741824) :
    Calls Tryd.prog 12 #[.string a, .string b] w fun e w' => e = .returned (.string (joinS a b)) ∧ w' = w := by
  cases he : a.toList.isEmpty
  · have h1 := emp_size_no he
    cases hs : endsSlash a
    · have HJ : Hid (a ++ ⟨#[47]⟩ ++ b = joinS a b) := join_mid (by rw [he, hs]; rfl)
      go_enter Tryd.func12, Tryd.ntmps12
      go_wp2_with (go_at_call 24; refine (suffix_any a _ h1 ha).mono ?_; rintro e w' ⟨rfl, rfl⟩)
      go_ret
      exact ⟨ret_str HJ.out, rfl⟩
    · have HJ : Hid (a ++ b = joinS a b) := join_plain (by rw [he, hs]; rfl)
      go_enter Tryd.func12, Tryd.ntmps12
      go_wp2_with (go_at_call 24; refine (suffix_any a _ h1 ha).mono ?_; rintro e w' ⟨rfl, rfl⟩)
      go_ret
      exact ⟨ret_str HJ.out, rfl⟩
  · have HJ : Hid (a ++ b = joinS a b) := join_plain (by rw [he]; rfl)
    go_enter Tryd.func12, Tryd.ntmps12
    go_wp2
    go_ret
    exact ⟨ret_str HJ.out, rfl⟩

set_option maxHeartbeats 1000000 in
theorem refjoin_any (a b : ByteArray) (w : World) (ha : a.size ≤ 1073741824) (hb : b.size ≤ 1073741824) :
    Calls Tryd.prog 13 #[.string a, .string b] w fun e w' => e = .returned (.string (joinS a b)) ∧ w' = w := by
  cases he : a.toList.isEmpty
  · have h1 := emp_size_no he
    have hg := ends_get h1
    by_cases hc : (a[a.size - 1].toNat : Int) = 47
    · have HJ : Hid (a ++ b = joinS a b) := join_plain (by rw [hg, decide_eq_true hc]; simp)
      have hb2 : ((a[a.size - 1].toNat : Int) != 47) = false := by simp [hc]
      clear hg hc
      go_enter Tryd.func13, Tryd.ntmps13
      go_wp2
      go_ret
      exact ⟨ret_str HJ.out, rfl⟩
    · have HJ : Hid (a ++ ⟨#[47]⟩ ++ b = joinS a b) := join_mid (by rw [he, hg, decide_eq_false hc]; rfl)
      have hb2 : ((a[a.size - 1].toNat : Int) != 47) = true := by simpa using hc
      clear hg hc
      go_enter Tryd.func13, Tryd.ntmps13
      go_wp2
      go_ret
      exact ⟨ret_str HJ.out, rfl⟩
  · have HJ : Hid (a ++ b = joinS a b) := join_plain (by rw [he]; rfl)
    go_enter Tryd.func13, Tryd.ntmps13
    go_wp2
    go_ret
    exact ⟨ret_str HJ.out, rfl⟩

theorem owns_below {W W' : World} {B n : Nat} {v : Value} {xs : List Value} (h : W.ownsRow B 9 1 v n xs) (hb : Below W.heap.size W W') : W'.ownsRow B 9 1 v n xs := by
  refine ⟨h.1, ?_⟩
  rcases h.2 with h2 | ⟨g, cap, cur, e, hbb, hg, r⟩
  · exact .inl h2
  · exact .inr ⟨g, cap, cur, e, hbb, (hb.block g (Array.getElem?_eq_some_iff.1 hg).1).trans hg, r⟩

theorem addr_add (g j : Nat) : (⟨g, 0, none⟩ : Addr).add j = ⟨g, j, none⟩ := by
  unfold Addr.add
  by_cases h : j = 0
  · subst h; simp
  · simp [h]

/-- 'append(both, row...)', the row nil or not. -/
theorem wpList_append_row {w : World} {ops : Array Oper} {rest : List Oper} {o : Oper} {a : Act} {Q : Exit → Act → World → Prop} (hgd : o.guard = none) (s x : Operand)
    (ho : o.op = .call { callee := .builtin .append, args := #[s, x], argTypes := #[22, 22] }) (B C : Nat) (v u : Value) (xs ys : List ByteArray) (hs : a.eval s = v) (hown : w.ownsRow B 9 1 v xs.length (xs.map Value.string))
    (hx : a.eval x = u) (hu : StrRow C w u ys) (hl : xs.length + ys.length ≤ 4294967296) (hB : B ≤ w.heap.size)
    (h : ∀ v' w', w'.ownsRow B 9 1 v' (xs ++ ys).length ((xs ++ ys).map Value.string) → w.grownBy w' v.ownBlock → wpList Tryd.prog ops Q rest (a.put o.dst v') w') : wpList Tryd.prog ops Q (o :: rest) a w := by
  obtain ⟨i0, hi, hz0, hz1, hz2⟩ := info_parts Tryd.info9
  rcases hu with ⟨rfl, rfl⟩ | ⟨g, cap, rfl, hg, hcap, hcell⟩
  · refine wpList_append_own_none hgd s x 22 ho B 9 i0 1 Tryd.underlying22 hi v xs.length _ hs hown hx (h v w ?_ ⟨rfl, rfl, rfl, Nat.le_refl _, fun _ _ _ => rfl⟩)
    rw [List.append_nil]; exact hown
  · refine wpList_append_own w hgd s x 22 ho B 9 i0 (.string ⟨#[]⟩) 1 16 Tryd.underlying22 hi hz0 hz1 hz2 rfl (by decide) v xs.length _ hs hown ⟨g, 0, none⟩ ys.length cap (ys.map Value.string) hx (by simp) ?_ ?_ (by unfold maxLen; omega) (by omega) hB ?_
    · intro j y hj
      rw [List.getElem?_map] at hj
      cases e : ys[j]? with
      | none => rw [e] at hj; cases hj
      | some z =>
        rw [e] at hj
        cases hj
        have := hcell j z e
        rw [addr_add]; exact this
    · intro y hy
      obtain ⟨z, _, rfl⟩ := List.mem_map.1 hy
      rfl
    · intro v' w' h1 h2 _
      refine h v' w' ?_ h2
      rw [List.length_append, List.map_append]; exact h1

set_option maxHeartbeats 2000000 in
theorem law_joins (a b : ByteArray) (w : World) (ha : a.size ≤ 268435456) (hb : b.size ≤ 268435456) :
    Calls Tryd.prog 4 #[.string a, .string b] w fun e w' => e = .returned (.bool true) ∧ Below w.heap.size w w' := by
  have hla := partsS_length a
  have hlb := partsS_length b
  have hlj := partsS_length (joinS a b)
  have hjs := joinS_size a b
  have HP : Hid (partsS (joinS a b) = partsS a ++ partsS b) := parts_join a b
  go_enter Tryd.func4, Tryd.ntmps4
  go_wp2_with fail
  refine (join_any a b _ (by omega) (by omega)).mono ?_
  rintro e w' ⟨rfl, rfl⟩
  go_wp2_with fail
  refine (parts_any a _ (by omega)).mono ?_
  rintro e w1 ⟨v1, rfl, hown1, hb1⟩
  go_wp2_with (at_builtin; refine wpList_append_row rfl _ _ rfl w'.heap.size w1.heap.size _ _ [] (partsS a) rfl (World.ownsRow_nil _ _ _ _) rfl (StrRow.of_owns hown1) (by simp; omega) hb1.size ?_; intro v1' w1' hown1' hg1)
  simp only [List.nil_append] at hown1'
  have hB1 : Below w'.heap.size w' w1' := hb1.grown hg1 hb1.size (fun k e => by cases e)
  refine (parts_any b _ (by omega)).mono ?_
  rintro e w2 ⟨v2, rfl, hown2, hb2⟩
  have hz2 := hb2.size
  have hz1 := hB1.size
  have hk1 := owns_below hown1' hb2
  go_wp2_with (at_builtin; refine wpList_append_row rfl _ _ rfl w'.heap.size w2.heap.size _ _ (partsS a) (partsS b) rfl hk1 rfl (StrRow.of_owns hown2) (by omega) (by omega) ?_; intro v2' w2' hown2' hg2)
  have hB2 : Below w'.heap.size w' w2' := (hB1.trans (hb2.mono hz1)).grown hg2 (by omega) (fun k e => (hk1.lt k e).1)
  rw [← HP.out] at hown2'
  have hz3 := hB2.size
  refine (parts_any (joinS a b) _ (by omega)).mono ?_
  rintro e w3 ⟨v3, rfl, hown3, hb3⟩
  go_wp2_with fail
  refine (refjoin_any a b _ (by omega) (by omega)).mono ?_
  rintro e w3' ⟨rfl, rfl⟩
  go_wp2_with fail
  refine (texts_same (by omega) (StrRow.of_owns hown3) ((StrRow.of_owns hown2').below hb3)).mono ?_
  rintro e w5 ⟨rfl, n5, rfl⟩
  go_wp2
  go_ret
  exact ⟨rfl, below_drewN (hB2.trans (hb3.mono hz3)) n5⟩
end Go.Proofs.YtehbjabneocflaaDoor
