/- The document's ReadRules; the law's sameRules. -/
import Derived.Test.YtoebmpllckpjlaaDoorIgI
import Derived.Test.YtoebmpllckpjlaaDoorIgE
namespace Go.Proofs.YtoebmpllckpjlaaDoor
open Go.RowKit Go.Maps

theorem Tryd.info38r : (Tryd.prog.info? 38).map (fun i => (i.zero, i.size, i.bytes)) = some (some (.agg #[.bool false, .bool false, .bool false, .string ⟨#[]⟩]), 4, 24) := by kernel_rfl
theorem Tryd.underlying24r : Tryd.prog.underlying 24 = some (.slice 38) := by kernel_rfl
theorem fm_take_none {cs : List ByteArray} {k : Nat} {x : ByteArray} (hx : cs[k]? = some x) (h : lineR x = none) : (cs.take (k + 1)).filterMap lineR = (cs.take k).filterMap lineR := by
  obtain ⟨hlt, he⟩ := List.getElem?_eq_some_iff.1 hx
  rw [List.take_succ_eq_append_getElem hlt, he]
  exact fm_none h
theorem fm_take_some {cs : List ByteArray} {k : Nat} {x : ByteArray} {r : RuleD} (hx : cs[k]? = some x) (h : lineR x = some r) : (cs.take (k + 1)).filterMap lineR = (cs.take k).filterMap lineR ++ [r] := by
  obtain ⟨hlt, he⟩ := List.getElem?_eq_some_iff.1 hx
  rw [List.take_succ_eq_append_getElem hlt, he]
  exact fm_some h
theorem own4_shape {W : World} {B t n : Nat} {v : Value} {xs : List Value} (h : W.ownsRow B t 4 v n xs) : ∃ a c, v = .slice a n c := by
  rcases h.2 with ⟨e, h0⟩ | ⟨g, c, cur, e, _⟩
  · exact ⟨_, _, by rw [e, h0]⟩
  · exact ⟨_, _, e⟩
set_option maxRecDepth 100000 in
set_option maxHeartbeats 4000000 in
theorem readRules_any (s : ByteArray) (hs : s.size ≤ 16000000) (w : World) :
    Calls Tryd.prog 6 #[.string s] w fun e w' => ∃ v, e = .returned v ∧ w'.ownsRow w.heap.size 38 4 v (rulesOf s).length (rulesL (rulesOf s)) ∧ Below w.heap.size w w' := by
  have hcut := cut_any 10 s w (by omega)
  have hcl := cutS_length 10 s
  have hmem : ∀ (k : Nat) (x : ByteArray), (cutS 10 s)[k]? = some x → x.size ≤ s.size := fun k x hx => by
    obtain ⟨hlt, he⟩ := List.getElem?_eq_some_iff.1 hx
    refine cut_size (c := 10) (pre := (cutS 10 s).take k) (r := (cutS 10 s).drop (k + 1)) ?_
    rw [← he, ← List.drop_eq_getElem_cons hlt, List.take_append_drop]
  obtain ⟨cs, hcs⟩ : ∃ cs, cutS 10 s = cs := ⟨_, rfl⟩
  have HRO := hide (show rulesOf s = cs.filterMap lineR by unfold rulesOf; rw [hcs])
  rw [hcs] at hcut hcl hmem
  clear hcs
  obtain ⟨i0, hi0, z0, z1, z2⟩ := info_parts Tryd.info38r
  go_enter Tryd.func6, Tryd.ntmps6
  go_wp2_with fail
  refine hcut.mono ?_
  rintro e W1 ⟨v1, rfl, hown1, hb1⟩
  have hrow1 := StrRow.of_owns hown1
  obtain ⟨p1, c1, hv1⟩ : ∃ a cap, v1 = .slice a cs.length cap := by
    rcases hrow1 with ⟨e, e2⟩ | ⟨g, cap, e, _⟩
    · subst e2; exact ⟨_, _, e⟩
    · exact ⟨_, _, e⟩
  subst hv1
  have HW1 := hide (⟨hrow1, hb1⟩ : _ ∧ _)
  clear hown1 hrow1 hb1 hcut
  go_wp2
  go_loopw [4, 5, 6, 7] (fun ov iv _ _ wr => ∃ (i : Nat), iv = .int .i64 (i : Int) ∧ i ≤ cs.length ∧ wr.ownsRow W1.heap.size 38 4 ov ((cs.take i).filterMap lineR).length (rulesL ((cs.take i).filterMap lineR)) ∧ Below W1.heap.size W1 wr) (fun _ iv _ _ _ => cs.length - (intOf iv).toNat)
  case atStart => exact ⟨0, rfl, Nat.zero_le _, World.ownsRow_nil _ _ _ _, Below.refl _ _⟩
  case round =>
    obtain ⟨i, rfl, hi, hown, hbr⟩ := hrel
    have hfl : ((cs.take i).filterMap lineR).length ≤ i := Nat.le_trans (List.length_filterMap_le _ _) (List.length_take_le _ _)
    by_cases hlt : i < cs.length
    · have hiI : (i : Int) < (cs.length : Int) := by omega
      rcases HW1.out.1 with ⟨_, e⟩ | ⟨g', cap', e, hg, hcap, hx⟩
      · rw [e] at hlt; simp at hlt
      obtain ⟨rfl, rfl⟩ : p1 = some ⟨g', 0, none⟩ ∧ c1 = cap' := by cases e; exact ⟨rfl, rfl⟩
      obtain ⟨x, hxi⟩ : ∃ x, cs[i]? = some x := ⟨_, List.getElem?_eq_getElem hlt⟩
      have hcell : wr.cell? ⟨g', i, none⟩ = some (.string x) := (hbr.cell (p := ⟨g', i, none⟩) hg).trans (hx i _ hxi)
      have hrule := ruleOf_any x wr (by have := hmem i x hxi; omega)
      obtain ⟨la, lc, rfl⟩ := own4_shape hown
      cases ho : lineR x with
      | none =>
        rw [ho] at hrule
        have HF := hide (fm_take_none hxi ho)
        have HO := hide (⟨hown, hbr⟩ : _ ∧ _)
        clear hown hbr ho hxi hx e hmem
        go_wp2_with (go_at_call 11; refine hrule.mono ?_; rintro e w2 ⟨⟨r', ok, rfl, h1, _⟩, hb2⟩; obtain rfl := h1 rfl; simp only [ruleV])
        obtain ⟨hown, hbr⟩ := HO.out
        have hb3 : Below wr.heap.size wr (w2.alloc (.cells #[.bool r'.nt, .bool r'.dr, .bool r'.fx, .string r'.pt] 38)) := hb2.alloc hb2.size _
        go_roundw
        case rel => exact ⟨i + 1, by go_num, by omega, by rw [HF.out]; exact row_keep hown (fun k c hk _ => (hb3.block k (Array.getElem?_eq_some_iff.1 hk).1).trans hk), hbr.trans (hb3.mono hbr.size)⟩
        case measure => simp [intOf]; omega
      | some r =>
        rw [ho] at hrule
        have HF := hide (fm_take_some hxi ho)
        have HO := hide (⟨hown, hbr⟩ : _ ∧ _)
        clear hown hbr ho hxi hx e hmem
        go_wp2_with first
          | (go_at_call 11; refine hrule.mono ?_; rintro e w2 ⟨⟨r', ok, rfl, _, h1⟩, hb2⟩; obtain ⟨hok, hrr⟩ := h1 _ rfl; subst hok; have hrr2 := hrr.symm; subst hrr2; simp only [ruleV]; have hb3 : Below wr.heap.size wr (w2.alloc (.cells #[.bool r.nt, .bool r.dr, .bool r.fx, .string r.pt] 38)) := hb2.alloc hb2.size _; have hrow3 : (w2.alloc (.cells #[.bool r.nt, .bool r.dr, .bool r.fx, .string r.pt] 38)).ownsRow W1.heap.size 38 4 (.slice la ((cs.take i).filterMap lineR).length lc) ((cs.take i).filterMap lineR).length (rulesL ((cs.take i).filterMap lineR)) := row_keep HO.out.1 (fun k c hk _ => (hb3.block k (Array.getElem?_eq_some_iff.1 hk).1).trans hk); have hs3 : W1.heap.size ≤ w2.heap.size := Nat.le_trans HO.out.2.size hb2.size; have HB3 := hide hb3; have HR3 := hide hrow3; clear hb3 hrow3)
          | (at_builtin; refine wpList_append_lies _ rfl (.tmp 25) (.tmp 27) 24 rfl W1.heap.size 38 i0 _ 4 24 Tryd.underlying24r hi0 z0 z1 z2 rfl (by decide) (.slice la ((cs.take i).filterMap lineR).length lc) _ _ rfl (HR3.out.alloc _) ⟨w2.heap.size + 1, 0, none⟩ 1 1 (ruleL r) rfl rfl (World.news_of_block (cs := #[.bool r.nt, .bool r.dr, .bool r.fx, .string r.pt]) (by have := World.alloc_heap_new (w2.alloc (.cells #[.bool r.nt, .bool r.dr, .bool r.fx, .string r.pt] 38)) (.cells #[.bool r.nt, .bool r.dr, .bool r.fx, .string r.pt] 38); rw [World.size_alloc] at this; exact this)) (by simp [ruleL, Value.oneCell']) (by decide) (by unfold maxLen; omega) (by omega) (by simp; omega) _ rfl ?_; intro g6 c6 w6 hown6 hg6 hat6 _)
        obtain ⟨hown, hbr⟩ := HO.out
        have hb3 := HB3.out
        have hbx : Below W1.heap.size W1 w6 := by
          have hb4 : Below W1.heap.size W1 ((w2.alloc (.cells #[.bool r.nt, .bool r.dr, .bool r.fx, .string r.pt] 38)).alloc (.cells #[.bool r.nt, .bool r.dr, .bool r.fx, .string r.pt] 38)) := (hbr.trans (hb3.mono hbr.size)).alloc (by simp; omega) _
          exact hb4.trans ⟨hg6.os, hg6.tape, hg6.output, hg6.size, fun k hk => hg6.block k (by simp; omega) (fun e => by have := (own_cells hown e.symm).1; omega)⟩
        go_roundw
        case rel => exact ⟨i + 1, by go_num, by omega, by rw [HF.out, List.length_append, rulesL_snoc]; exact hown6, hbx⟩
        case measure => simp [intOf]; omega
    · have hie : i = cs.length := by omega
      subst hie
      have hiI : ¬ ((cs.length : Int) < (cs.length : Int)) := by omega
      rw [List.take_length] at hown
      obtain ⟨la, lc, rfl⟩ := own4_shape hown
      have HO := hide (⟨hown, hbr⟩ : _ ∧ _)
      clear hown hbr hfl hmem
      go_wp2
      go_ret
      refine ⟨_, rfl, ?_, HW1.out.2.trans (HO.out.2.mono HW1.out.2.size)⟩
      rw [HRO.out]
      exact owns_baseG HW1.out.2.size HO.out.1
end Go.Proofs.YtoebmpllckpjlaaDoor
