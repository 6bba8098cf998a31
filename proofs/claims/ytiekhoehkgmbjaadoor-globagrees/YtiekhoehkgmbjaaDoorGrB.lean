import Derived.Test.YtiekhoehkgmbjaaDoorGbMatch
import Derived.Test.YtiekhoehkgmbjaaDoorARefA
/- The document's patterns: sets of bytes. What they have is not told here, but how long they are. -/
namespace Go.Proofs.YtiekhoehkgmbjaaDoor
open Go.RowKit Go.Maps

theorem grow_row {w wr w1 : World} {v : Value} {n : Nat} {xs : List Value} {ob : Obj} (hb : Below w.heap.size w wr) (ho : wr.ownsRow w.heap.size 5 1 v n xs) (hg : (wr.alloc ob).grownBy w1 v.ownBlock) : Below w.heap.size w w1 :=
  hb.grown ((World.grownBy_alloc wr ob _).trans hg) hb.size (fun _ e => (own_cells ho e).1)
theorem ofN {i : Nat} (h : i < 256) : u8s [UInt8.ofNat i] = [.int .u8 (i : Int)] := by
  rw [u8s, List.map_cons, List.map_nil, UInt8.toNat_ofNat', Nat.mod_eq_of_lt (by omega)]
set_option maxRecDepth 100000 in
set_option maxHeartbeats 1000000 in
theorem between_any (a b : UInt8) (w : World) :
    Calls Tryd.prog 54 #[.int .u8 (a.toNat : Int), .int .u8 (b.toNat : Int)] w fun e w' => ∃ t : ByteArray, e = .returned (.string t) ∧ t.size ≤ 256 ∧ Below w.heap.size w w' := by
  obtain ⟨i0, hi0, hz0, hz1, hz2⟩ := info_parts Tryd.info5'
  have hb8 : b.toNat < 256 := b.toNat_lt
  have ha8 : a.toNat < 256 := a.toNat_lt
  have hwa : IntKind.i64.wrap (a.toNat : Int) = (a.toNat : Int) := by rw [IntKind.wrap_i64]; omega
  have hwb : IntKind.i64.wrap (b.toNat : Int) = (b.toNat : Int) := by rw [IntKind.wrap_i64]; omega
  go_enter Tryd.func54, Tryd.ntmps54
  go_wp2
  go_loopw [5, 6] (fun ov iv wr => ∃ (i : Nat) (l : List UInt8), iv = .int .i64 (i : Int) ∧ i ≤ 256 ∧ l.length ≤ i ∧ wr.ownsRow w.heap.size 5 1 ov l.length (u8s l) ∧ Below w.heap.size w wr) (fun _ iv _ => 256 - (intOf iv).toNat)
  case atStart => exact ⟨a.toNat, [], rfl, by omega, Nat.zero_le _, ⟨rfl, .inl ⟨rfl, rfl⟩⟩, Below.refl _ _⟩
  case round =>
    obtain ⟨i, l, rfl, hi, hl, hown, hb⟩ := hrel
    obtain ⟨oa, on, oc, hov⟩ : ∃ a n c, u5 = .slice a n c := by
      rcases hown.2 with ⟨e, _⟩ | ⟨g, cap, cur, e, _⟩ <;> exact ⟨_, _, _, e⟩
    subst hov
    have hbs := hb.size
    by_cases hlt : i ≤ b.toNat
    · have hiI : (i : Int) ≤ (b.toNat : Int) := by omega
      have hwr : IntKind.u8.wrap (i : Int) = (i : Int) := by rw [IntKind.wrap_u8]; omega
      have hnews : ∀ q : World, ∀ j u, [Value.int .u8 (i : Int)][j]? = some u → (q.alloc (.cells #[.int .u8 (i : Int)] 5)).cell? ((⟨q.heap.size, 0, none⟩ : Addr).add j) = some u := fun q => cell_one_new q _ 5
      have hmaxl : l.length + 1 ≤ maxLen := by unfold maxLen; omega
      have HON := hide hown
      have HB := hide hb
      have HNEWS := hide hnews
      clear hown hb hnews
      go_wp2_with (at_builtin; refine wpList_append_lies _ rfl (.tmp 15) (.tmp 18) 45 rfl w.heap.size 5 i0 _ 1 1 Tryd.u45 hi0 hz0 hz1 hz2 rfl (by decide) (.slice oa on oc) l.length (u8s l) rfl (HON.out.alloc _) ⟨wr.heap.size, 0, none⟩ 1 1 [.int .u8 (i : Int)] rfl rfl (HNEWS.out _) (by simp [Value.oneCell']) (by decide) hmaxl (by omega) (by simp; omega) _ rfl ?_; intro g1 c1 w1 hown1 hgr1 hat1 hlt1)
      go_roundw
      case rel =>
        refine ⟨i + 1, l ++ [UInt8.ofNat i], by simp, by omega, by simp; omega, ?_, grow_row HB.out HON.out hgr1⟩
        rw [List.length_append, u8s_append, ofN (by omega)]
        exact hown1
      case measure => simp [intOf]; omega
    · have hiI : ¬ ((i : Int) ≤ (b.toNat : Int)) := by omega
      have hcv := conv_any hown
      have HB := hide hb
      clear hown hb
      go_wp2
      go_ret
      exact ⟨_, rfl, by show l.toArray.size ≤ 256; rw [List.size_toArray]; omega, HB.out⟩
set_option maxRecDepth 100000 in
set_option maxHeartbeats 1000000 in
theorem all_any (w : World) :
    Calls Tryd.prog 31 #[] w fun e w' => ∃ t : ByteArray, e = .returned (.string t) ∧ t.size ≤ 256 ∧ Below w.heap.size w w' := by
  obtain ⟨i0, hi0, hz0, hz1, hz2⟩ := info_parts Tryd.info5'
  go_enter Tryd.func31, Tryd.ntmps31
  go_wp2
  go_loopw [1, 2] (fun ov iv wr => ∃ (i : Nat) (l : List UInt8), iv = .int .i64 (i : Int) ∧ i ≤ 256 ∧ l.length ≤ i ∧ wr.ownsRow w.heap.size 5 1 ov l.length (u8s l) ∧ Below w.heap.size w wr) (fun _ iv _ => 256 - (intOf iv).toNat)
  case atStart => exact ⟨0, [], rfl, by omega, Nat.zero_le _, ⟨rfl, .inl ⟨rfl, rfl⟩⟩, Below.refl _ _⟩
  case round =>
    obtain ⟨i, l, rfl, hi, hl, hown, hb⟩ := hrel
    obtain ⟨oa, on, oc, hov⟩ : ∃ a n c, u1 = .slice a n c := by
      rcases hown.2 with ⟨e, _⟩ | ⟨g, cap, cur, e, _⟩ <;> exact ⟨_, _, _, e⟩
    subst hov
    have hbs := hb.size
    by_cases hlt : i < 256
    · have hiI : (i : Int) < 256 := by omega
      have hwr : IntKind.u8.wrap (i : Int) = (i : Int) := by rw [IntKind.wrap_u8]; omega
      have hnews : ∀ q : World, ∀ j u, [Value.int .u8 (i : Int)][j]? = some u → (q.alloc (.cells #[.int .u8 (i : Int)] 5)).cell? ((⟨q.heap.size, 0, none⟩ : Addr).add j) = some u := fun q => cell_one_new q _ 5
      have hmaxl : l.length + 1 ≤ maxLen := by unfold maxLen; omega
      have HON := hide hown
      have HB := hide hb
      have HNEWS := hide hnews
      clear hown hb hnews
      go_wp2_with (at_builtin; refine wpList_append_lies _ rfl (.tmp 7) (.tmp 10) 45 rfl w.heap.size 5 i0 _ 1 1 Tryd.u45 hi0 hz0 hz1 hz2 rfl (by decide) (.slice oa on oc) l.length (u8s l) rfl (HON.out.alloc _) ⟨wr.heap.size, 0, none⟩ 1 1 [.int .u8 (i : Int)] rfl rfl (HNEWS.out _) (by simp [Value.oneCell']) (by decide) hmaxl (by omega) (by simp; omega) _ rfl ?_; intro g1 c1 w1 hown1 hgr1 hat1 hlt1)
      go_roundw
      case rel =>
        refine ⟨i + 1, l ++ [UInt8.ofNat i], by simp, by omega, by simp; omega, ?_, grow_row HB.out HON.out hgr1⟩
        rw [List.length_append, u8s_append, ofN (by omega)]
        exact hown1
      case measure => simp [intOf]; omega
    · have hiI : ¬ ((i : Int) < 256) := by omega
      have hcv := conv_any hown
      have HB := hide hb
      clear hown hb
      go_wp2
      go_ret
      exact ⟨_, rfl, by show l.toArray.size ≤ 256; rw [List.size_toArray]; omega, HB.out⟩
set_option maxRecDepth 100000 in
set_option maxHeartbeats 1000000 in
theorem without_any (s t : ByteArray) (w : World) (hs : s.size ≤ 1000000) (ht : t.size ≤ 1000000) :
    Calls Tryd.prog 30 #[.string s, .string t] w fun e w' => ∃ u : ByteArray, e = .returned (.string u) ∧ u.size ≤ s.size ∧ Below w.heap.size w w' := by
  obtain ⟨i0, hi0, hz0, hz1, hz2⟩ := info_parts Tryd.info5'
  go_enter Tryd.func30, Tryd.ntmps30
  go_wp2
  go_loopw [5, 6] (fun ov iv wr => ∃ (i : Nat) (l : List UInt8), iv = .int .i64 (i : Int) ∧ i ≤ s.size ∧ l.length ≤ i ∧ wr.ownsRow w.heap.size 5 1 ov l.length (u8s l) ∧ Below w.heap.size w wr) (fun _ iv _ => s.size - (intOf iv).toNat)
  case atStart => exact ⟨0, [], rfl, by omega, Nat.zero_le _, ⟨rfl, .inl ⟨rfl, rfl⟩⟩, Below.refl _ _⟩
  case round =>
    obtain ⟨i, l, rfl, hi, hl, hown, hb⟩ := hrel
    obtain ⟨oa, on, oc, hov⟩ : ∃ a n c, u5 = .slice a n c := by
      rcases hown.2 with ⟨e, _⟩ | ⟨g, cap, cur, e, _⟩ <;> exact ⟨_, _, _, e⟩
    subst hov
    have hbs := hb.size
    by_cases hlt : i < s.size
    · have hiI : (i : Int) < (s.size : Int) := by omega
      have hha := rhas_any t (s[i]'hlt) wr (by omega)
      have hnews : ∀ q : World, ∀ j u, [Value.int .u8 ((s[i]'hlt).toNat : Int)][j]? = some u → (q.alloc (.cells #[.int .u8 ((s[i]'hlt).toNat : Int)] 5)).cell? ((⟨q.heap.size, 0, none⟩ : Addr).add j) = some u := fun q => cell_one_new q _ 5
      have hmaxl : l.length + 1 ≤ maxLen := by unfold maxLen; omega
      have HON := hide hown
      have HB := hide hb
      have HNEWS := hide hnews
      clear hown hb hnews
      go_wp2_with fail
      refine hha.mono ?_
      rintro e w2 ⟨rfl, hw⟩
      rw [hw]
      clear hw hha w2
      cases hB : hasB t (s[i]'hlt) with
      | true =>
        go_wp2
        go_roundw
        case rel => exact ⟨i + 1, l, by simp, by omega, by omega, HON.out, HB.out⟩
        case measure => simp [intOf]; omega
      | false =>
        go_wp2_with (at_builtin; refine wpList_append_lies _ rfl (.tmp 21) (.tmp 25) 45 rfl w.heap.size 5 i0 _ 1 1 Tryd.u45 hi0 hz0 hz1 hz2 rfl (by decide) (.slice oa on oc) l.length (u8s l) rfl (HON.out.alloc _) ⟨wr.heap.size, 0, none⟩ 1 1 [.int .u8 ((s[i]'hlt).toNat : Int)] rfl rfl (HNEWS.out _) (by simp [Value.oneCell']) (by decide) hmaxl (by omega) (by simp; omega) _ rfl ?_; intro g1 c1 w1 hown1 hgr1 hat1 hlt1)
        go_roundw
        case rel =>
          refine ⟨i + 1, l ++ [s[i]'hlt], by simp, by omega, by simp; omega, ?_, grow_row HB.out HON.out hgr1⟩
          rw [List.length_append, u8s_append]
          exact hown1
        case measure => simp [intOf]; omega
    · have hiI : ¬ ((i : Int) < (s.size : Int)) := by omega
      have hcv := conv_any hown
      have HB := hide hb
      clear hown hb
      go_wp2
      go_ret
      exact ⟨_, rfl, by show l.toArray.size ≤ s.size; rw [List.size_toArray]; omega, HB.out⟩

/-! ### item -/
/-- Where an item ends, and its byte. -/
theorem sl_get {s : ByteArray} {i : Nat} (h : i < s.size) : s.data.toList.drop i = (s[i]'h) :: s.data.toList.drop (i + 1) := drop_cons h
set_option maxRecDepth 100000 in
set_option maxHeartbeats 1000000 in
theorem ritem_any (s : ByteArray) (i : Nat) (w : World) (hs : s.size ≤ 200) (hi : i < s.size) :
    Calls Tryd.prog 53 #[.string s, .int .i64 (i : Int), .bool true] w fun e w' => w' = w ∧
      ((∃ (c : UInt8) (k : Nat), e = .returned (.tuple #[.int .u8 (c.toNat : Int), .int .i64 (k : Int)]) ∧ i < k ∧ k ≤ s.size ∧ itemD true (s.data.toList.drop i) = (c, s.data.toList.drop k)) ∨
       (e = .returned (.tuple #[.int .u8 0, .int .i64 (-1)]) ∧ s.data.toList.drop i = [92])) := by
  have hiI : (i : Int) < (s.size : Int) := by omega
  have hd := sl_get hi
  by_cases hc : s[i]'hi = 92
  · have hcb : (((s[i]'hi).toNat : Int) == 92) = true := by rw [hc]; rfl
    by_cases h2 : i + 1 < s.size
    · have h2I : ¬ ((s.size : Int) ≤ (i : Int) + 1) := by omega
      have hd2 := sl_get h2
      have HD := hide hd
      have HD2 := hide hd2
      clear hd hd2
      go_enter Tryd.func53, Tryd.ntmps53
      go_wp2
      refine bodyPost_ret (v := .tuple #[.int .u8 ((s[i + 1]'h2).toNat : Int), .int .i64 ((i : Int) + 1 + 1)]) (by simp [results, Tryd.results53, go_sem]) rfl ⟨rfl, .inl ⟨s[i + 1]'h2, i + 2, ?_, by omega, by omega, ?_⟩⟩
      · have e : ((i + 2 : Nat) : Int) = (i : Int) + 1 + 1 := by omega
        rw [e]
      · rw [HD.out, HD2.out, hc, itemD, if_pos ⟨rfl, rfl⟩]
    · have h2I : (s.size : Int) ≤ (i : Int) + 1 := by omega
      have HD : Hid (s.data.toList.drop i = [92]) := by
        show s.data.toList.drop i = [92]
        rw [hd, hc, List.drop_of_length_le (by rw [len_list]; omega)]
      clear hd
      go_enter Tryd.func53, Tryd.ntmps53
      go_wp2
      exact bodyPost_ret (v := .tuple #[.int .u8 0, .int .i64 (-1)]) (by simp [results, Tryd.results53, go_sem]) rfl ⟨rfl, .inr ⟨rfl, HD.out⟩⟩
  · have hcb : (((s[i]'hi).toNat : Int) == 92) = false := by
      rw [beq_eq_false_iff_ne]
      intro e
      exact hc (UInt8.toNat_inj.1 (by have : (92 : UInt8).toNat = 92 := rfl; omega))
    have HD : Hid (itemD true (s.data.toList.drop i) = (s[i]'hi, s.data.toList.drop (i + 1))) := by
      show itemD true (s.data.toList.drop i) = _
      rw [hd]
      cases hr : s.data.toList.drop (i + 1) with
      | nil => rfl
      | cons d r => rw [itemD, if_neg (fun h => hc h.2)]
    have hiI2 : ¬ ((s.size : Int) ≤ (i : Int)) := by omega
    clear hd
    go_enter Tryd.func53, Tryd.ntmps53
    go_wp2
    exact bodyPost_ret (v := .tuple #[.int .u8 ((s[i]'hi).toNat : Int), .int .i64 ((i : Int) + 1)]) (by simp [results, Tryd.results53, go_sem]) rfl ⟨rfl, .inl ⟨s[i]'hi, i + 1, rfl, by omega, by omega, HD.out⟩⟩
/-! ### class -/
theorem bs_eq {s : ByteArray} {l : List UInt8} (h : s.data.toList = l) : s = ⟨l.toArray⟩ := by
  cases s with
  | mk d => simp only at h; rw [← h]
theorem class_known (n : List UInt8) : (classD n).isSome = decide (n = nmAlpha ∨ n = nmDigit ∨ n = nmAlnum ∨ n = nmUpper ∨ n = nmLower ∨ n = nmXdigit ∨ n = nmSpace ∨ n = nmBlank ∨ n = nmPunct ∨ n = nmPrint ∨ n = nmGraph ∨ n = nmCntrl) := by
  unfold classD
  rw [Option.isSome_map, Bool.eq_iff_iff, List.find?_isSome, decide_eq_true_eq]
  simp only [classTab, List.mem_cons, List.not_mem_nil, or_false, beq_iff_eq, exists_eq_or_imp, exists_eq_left]
  simp only [eq_comm]
theorem btw (a b : UInt8) (w : World) (x y : Int) (hx : x = (a.toNat : Int)) (hy : y = (b.toNat : Int)) : Calls Tryd.prog 54 #[.int .u8 x, .int .u8 y] w fun e w' => ∃ t : ByteArray, e = .returned (.string t) ∧ t.size ≤ 256 ∧ Below w.heap.size w w' := by
  rw [hx, hy]; exact between_any a b w
theorem known_of {s : ByteArray} {l : List UInt8} (h : (s.toList == l) = true) (hm : (classD l).isSome = true) : (classD s.data.toList).isSome = true := by
  have e := eq_of_beq h
  rw [ByteArray.toList_eq] at e
  rw [e]; exact hm
theorem ne_of {s : ByteArray} {l : List UInt8} (h : (s.toList == l) = false) : s.data.toList ≠ l := fun e => by
  rw [← ByteArray.toList_eq] at e
  rw [e] at h
  simp at h
theorem class_ret (s t : ByteArray) (b : Bool) (a : Act) (w W : World) (h2 : a.tmps[2]? = some (.string t)) (h3 : a.tmps[3]? = some (.bool b)) (hb : (classD s.data.toList).isSome = b) (ht : t.size ≤ 300) (hd : a.defers = []) (hW : Below w.heap.size w W) :
    bodyPost Tryd.prog Tryd.f52 (fun e w' => ∃ t : ByteArray, e = .returned (.tuple #[.string t, .bool (classD s.data.toList).isSome]) ∧ t.size ≤ 300 ∧ Below w.heap.size w w') Exit.ret a W :=
  bodyPost_ret (v := .tuple #[.string t, .bool b]) (by simp [results, Tryd.results52, go_sem, h2, h3]) hd ⟨t, by rw [hb], ht, hW⟩
set_option maxRecDepth 100000 in
set_option maxHeartbeats 4000000 in
theorem rclass_any (s : ByteArray) (w : World) :
    Calls Tryd.prog 52 #[.string s] w fun e w' => ∃ t : ByteArray, e = .returned (.tuple #[.string t, .bool (classD s.data.toList).isSome]) ∧ t.size ≤ 300 ∧ Below w.heap.size w w' := by
  go_enter Tryd.func52, Tryd.ntmps52
  go_wp2_with fail
  all_goals rename_i hq
  all_goals try exact class_ret s _ true _ w _ rfl rfl (known_of hq rfl) (by decide) rfl (Below.refl _ _)
  · have hk := known_of (s := s) (l := nmPunct) (by assumption) rfl
    refine (btw 33 126 w _ _ rfl rfl).mono ?_
    rintro e w2 ⟨t, rfl, ht, b2⟩
    go_wp2_with fail
    refine (without_any t _ w2 (by omega) (by decide)).mono ?_
    rintro e w3 ⟨u, rfl, hu, b3⟩
    go_wp2
    exact class_ret s u true _ w _ rfl rfl hk (by omega) rfl (b2.trans (b3.mono b2.size))
  · have hk := known_of (s := s) (l := nmPrint) (by assumption) rfl
    refine (btw 32 126 w _ _ rfl rfl).mono ?_
    rintro e w2 ⟨t, rfl, ht, b2⟩
    go_wp2
    exact class_ret s t true _ w _ rfl rfl hk (by omega) rfl b2
  · have hk := known_of (s := s) (l := nmGraph) (by assumption) rfl
    refine (btw 33 126 w _ _ rfl rfl).mono ?_
    rintro e w2 ⟨t, rfl, ht, b2⟩
    go_wp2
    exact class_ret s t true _ w _ rfl rfl hk (by omega) rfl b2
  · have hk := known_of (s := s) (l := nmCntrl) (by assumption) rfl
    refine (btw 0 31 w _ _ rfl rfl).mono ?_
    rintro e w2 ⟨t, rfl, ht, b2⟩
    go_wp2
    exact class_ret s (t ++ ⟨#[127]⟩) true _ w _ rfl rfl hk (by rw [ByteArray.size_append]; have : (⟨#[127]⟩ : ByteArray).size = 1 := rfl; omega) rfl b2
  · refine class_ret s ⟨#[]⟩ false _ w _ rfl rfl ?_ (by decide) rfl (Below.refl _ _)
    rw [class_known, decide_eq_false_iff_not]
    rintro (h | h | h | h | h | h | h | h | h | h | h | h)
    · exact ne_of (l := nmAlpha) (by assumption) h
    · exact ne_of (l := nmDigit) (by assumption) h
    · exact ne_of (l := nmAlnum) (by assumption) h
    · exact ne_of (l := nmUpper) (by assumption) h
    · exact ne_of (l := nmLower) (by assumption) h
    · exact ne_of (l := nmXdigit) (by assumption) h
    · exact ne_of (l := nmSpace) (by assumption) h
    · exact ne_of (l := nmBlank) (by assumption) h
    · exact ne_of (l := nmPunct) (by assumption) h
    · exact ne_of (l := nmPrint) (by assumption) h
    · exact ne_of (l := nmGraph) (by assumption) h
    · exact ne_of (l := nmCntrl) (by assumption) h
end Go.Proofs.YtiekhoehkgmbjaaDoor
/- The document's patterns: the name of a class. -/
namespace Go.Proofs.YtiekhoehkgmbjaaDoor
open Go.RowKit Go.Maps

theorem take2 {s : ByteArray} {k : Nat} {a b : UInt8} : (s.data.toList.drop k).take 2 = [a, b] ↔ ∃ h : k + 1 < s.size, s[k]'(by omega) = a ∧ s[k + 1]'h = b := by
  constructor
  · intro e
    have hl := congrArg List.length e
    rw [List.length_take, List.length_drop, len_list] at hl
    have hl2 : min 2 (s.size - k) = 2 := hl
    have h : k + 1 < s.size := by omega
    rw [sl_get (by omega : k < s.size), sl_get h] at e
    simp only [List.take_succ_cons, List.take_zero, List.cons.injEq, and_true] at e
    exact ⟨h, e.1, e.2⟩
  · rintro ⟨h, rfl, rfl⟩
    rw [sl_get (by omega : k < s.size), sl_get h]
    rfl
/-- How far the small letters go. -/
def lowTo (s : ByteArray) (i : Nat) : Nat := i + ((s.data.toList.drop i).takeWhile isLow).length
theorem lowTo_in {s : ByteArray} {i k : Nat} (h1 : i ≤ k) (h2 : k < lowTo s i) : ∃ h : k < s.size, isLow (s[k]'h) = true := by
  unfold lowTo at h2
  have hl : ((s.data.toList.drop i).takeWhile isLow).length ≤ s.size - i := by
    have := (List.takeWhile_sublist isLow (l := s.data.toList.drop i)).length_le
    rw [List.length_drop, len_list] at this
    exact this
  have hk : k < s.size := by omega
  refine ⟨hk, ?_⟩
  have hkk : k - i < ((s.data.toList.drop i).takeWhile isLow).length := by omega
  have hm := List.getElem_mem hkk
  have hp := List.all_eq_true.1 (List.all_takeWhile (p := isLow) (l := s.data.toList.drop i)) _ hm
  have he : ((s.data.toList.drop i).takeWhile isLow)[k - i] = (s.data.toList.drop i)[k - i]'(by rw [List.length_drop, len_list]; omega) := by
    have hpre := List.takeWhile_prefix isLow (l := s.data.toList.drop i)
    exact hpre.getElem hkk
  rw [he, List.getElem_drop] at hp
  have e2 : i + (k - i) = k := by omega
  simp only [e2] at hp
  exact hp
theorem lowTo_out {s : ByteArray} {i : Nat} (hi : i ≤ s.size) : lowTo s i = s.size ∨ ∃ h : lowTo s i < s.size, isLow (s[lowTo s i]'h) = false := by
  have hl : ((s.data.toList.drop i).takeWhile isLow).length ≤ s.size - i := by
    have := (List.takeWhile_sublist isLow (l := s.data.toList.drop i)).length_le
    rw [List.length_drop, len_list] at this
    exact this
  rcases Nat.lt_or_ge (lowTo s i) s.size with h | h
  · refine .inr ⟨h, ?_⟩
    have hd : s.data.toList.drop (lowTo s i) = (s.data.toList.drop i).dropWhile isLow := by
      unfold lowTo
      rw [← List.drop_drop]
      conv => lhs; rw [← List.takeWhile_append_dropWhile (p := isLow) (l := s.data.toList.drop i)]
      rw [List.drop_append_of_le_length (by simp)]
      simp
    rw [sl_get h] at hd
    have hh := List.head?_dropWhile_not isLow (s.data.toList.drop i)
    rw [← hd] at hh
    simpa using hh
  · left
    unfold lowTo at h ⊢
    omega

theorem low_yes {c : UInt8} (h : isLow c = true) : (97 : Int) ≤ (c.toNat : Int) ∧ (c.toNat : Int) ≤ 122 := by
  unfold isLow at h
  simp only [Bool.and_eq_true, decide_eq_true_eq] at h
  omega
theorem low_no {c : UInt8} (h : isLow c = false) : ¬ ((97 : Int) ≤ (c.toNat : Int)) ∨ ((97 : Int) ≤ (c.toNat : Int) ∧ ¬ ((c.toNat : Int) ≤ 122)) := by
  unfold isLow at h
  simp only [Bool.and_eq_false_iff, decide_eq_false_iff_not] at h
  omega
theorem b_yes {c d : UInt8} (h : c = d) {x : Int} (hx : x = (d.toNat : Int)) : ((c.toNat : Int) == x) = true := by rw [h, hx]; simp
theorem b_no {c d : UInt8} (h : c ≠ d) {x : Int} (hx : x = (d.toNat : Int)) : ((c.toNat : Int) == x) = false := by
  rw [hx, beq_eq_false_iff_ne]
  intro e
  exact h (UInt8.toNat_inj.1 (by omega))
theorem n_yes {c d : UInt8} (h : c = d) {x : Int} (hx : x = (d.toNat : Int)) : ((c.toNat : Int) != x) = false := by rw [bne, b_yes h hx]; rfl
theorem n_no {c d : UInt8} (h : c ≠ d) {x : Int} (hx : x = (d.toNat : Int)) : ((c.toNat : Int) != x) = true := by rw [bne, b_no h hx]; rfl
/-- The name of a class at a place. -/
def nameAt (s : ByteArray) (i : Nat) : Option (List UInt8) := className (s.data.toList.drop i)
theorem nameAt_no1 {s : ByteArray} {i : Nat} (h : ¬ ∃ h : i + 1 < s.size, s[i]'(by omega) = 91 ∧ s[i + 1]'h = 58) : nameAt s i = none := by
  unfold nameAt className
  rw [if_neg]
  rintro ⟨h1, _⟩
  exact h (take2.1 h1)
theorem nameAt_low {s : ByteArray} {i : Nat} : ((s.data.toList.drop i).drop 2).takeWhile isLow = (s.data.toList.drop (i + 2)).takeWhile isLow := by rw [List.drop_drop]
theorem nameAt_yes {s : ByteArray} {i : Nat} (h0 : i + 1 < s.size) (h1 : s[i]'(by omega) = 91) (h2 : s[i + 1]'h0 = 58) (h3 : lowTo s (i + 2) ≠ i + 2) (h4 : lowTo s (i + 2) + 1 < s.size) (h5 : s[lowTo s (i + 2)]'(by omega) = 58) (h6 : s[lowTo s (i + 2) + 1]'h4 = 93) : nameAt s i = some ((s.data.toList.drop (i + 2)).takeWhile isLow) := by
  unfold nameAt className
  rw [nameAt_low, if_pos]
  refine ⟨take2.2 ⟨h0, h1, h2⟩, fun e => h3 ?_, ?_⟩
  · unfold lowTo; rw [e]; rfl
  · have e : i + (2 + ((s.data.toList.drop (i + 2)).takeWhile isLow).length) = lowTo s (i + 2) := by unfold lowTo; omega
    rw [List.drop_drop, List.drop_drop, e]
    exact take2.2 ⟨h4, h5, h6⟩
theorem nameAt_no2 {s : ByteArray} {i : Nat} (h : lowTo s (i + 2) = i + 2 ∨ ¬ ∃ h : lowTo s (i + 2) + 1 < s.size, s[lowTo s (i + 2)]'(by omega) = 58 ∧ s[lowTo s (i + 2) + 1]'h = 93) : nameAt s i = none := by
  unfold nameAt className
  rw [nameAt_low, if_neg]
  rintro ⟨_, h2, h3⟩
  rcases h with h | h
  · apply h2
    unfold lowTo at h
    exact List.eq_nil_of_length_eq_zero (by omega)
  · have e : i + (2 + ((s.data.toList.drop (i + 2)).takeWhile isLow).length) = lowTo s (i + 2) := by unfold lowTo; omega
    rw [List.drop_drop, List.drop_drop, e] at h3
    exact h (take2.1 h3)
/-- What classAt answers. -/
def clAns (s : ByteArray) (i : Nat) : Value := match nameAt s i with
  | some n => .tuple #[.string ⟨n.toArray⟩, .int .i64 ((i + n.length + 4 : Nat) : Int)]
  | none => .tuple #[.string ⟨#[]⟩, .int .i64 (-1)]
theorem cl_ret (s : ByteArray) (i : Nat) (t : ByteArray) (k : Int) (a : Act) (w : World) (h2 : a.tmps[4]? = some (.string t)) (h3 : a.tmps[5]? = some (.int .i64 k)) (hv : clAns s i = .tuple #[.string t, .int .i64 k]) (hd : a.defers = []) :
    bodyPost Tryd.prog Tryd.f51 (fun e w' => e = .returned (clAns s i) ∧ w' = w) Exit.ret a w :=
  bodyPost_ret (v := .tuple #[.string t, .int .i64 k]) (by simp [results, Tryd.results51, go_sem, h2, h3]) hd ⟨by rw [hv], rfl⟩
theorem cl_none {s : ByteArray} {i : Nat} (h : nameAt s i = none) : clAns s i = .tuple #[.string ⟨#[]⟩, .int .i64 (-1)] := by unfold clAns; rw [h]
theorem ext_list (s : ByteArray) (i k : Nat) : (s.extract i k).data.toList = (s.data.toList.drop i).take (k - i) := by
  rw [ByteArray.data_extract, Array.toList_extract, List.extract_eq_take_drop]
theorem cl_some {s : ByteArray} {i k : Nat} (hk : lowTo s (i + 2) = k) (h : nameAt s i = some ((s.data.toList.drop (i + 2)).takeWhile isLow)) : clAns s i = .tuple #[.string (s.extract (i + 2) k), .int .i64 ((k : Int) + 2)] := by
  unfold clAns
  rw [h]
  have hl : i + ((s.data.toList.drop (i + 2)).takeWhile isLow).length + 4 = k + 2 := by unfold lowTo at hk; omega
  have he : (⟨((s.data.toList.drop (i + 2)).takeWhile isLow).toArray⟩ : ByteArray) = s.extract (i + 2) k := by
    refine (bs_eq ?_).symm
    rw [ext_list]
    have hp := List.prefix_iff_eq_take.1 (List.takeWhile_prefix isLow (l := s.data.toList.drop (i + 2)))
    have hle : k - (i + 2) = ((s.data.toList.drop (i + 2)).takeWhile isLow).length := by unfold lowTo at hk; omega
    rw [hle]
    exact hp.symm
  simp only [hl, he]
  rfl
set_option maxRecDepth 100000 in
set_option maxHeartbeats 4000000 in
theorem classAt_any (s : ByteArray) (i : Nat) (w : World) (hs : s.size ≤ 200) (hi : i < s.size) :
    Calls Tryd.prog 51 #[.string s, .int .i64 (i : Int)] w fun e w' => e = .returned (clAns s i) ∧ w' = w := by
  have hiI : (i : Int) < (s.size : Int) := by omega
  by_cases h1 : i + 1 < s.size
  case neg =>
    have h1I : (s.size : Int) ≤ (i : Int) + 1 := by omega
    have HN := hide (cl_none (nameAt_no1 (s := s) (i := i) (fun h => h1 h.1)))
    go_enter Tryd.func51, Tryd.ntmps51
    go_wp2
    exact cl_ret s i _ _ _ w rfl rfl HN.out rfl
  have h1I : ¬ ((s.size : Int) ≤ (i : Int) + 1) := by omega
  have h1J : (i : Int) + 1 < (s.size : Int) := by omega
  by_cases h2 : s[i]'hi = 91
  case neg =>
    have h2b := n_no h2 (x := 91) rfl
    have HN := hide (cl_none (nameAt_no1 (s := s) (i := i) (fun h => h2 h.2.1)))
    go_enter Tryd.func51, Tryd.ntmps51
    go_wp2
    exact cl_ret s i _ _ _ w rfl rfl HN.out rfl
  have h2b := n_yes h2 (x := 91) rfl
  by_cases h3 : s[i + 1]'h1 = 58
  case neg =>
    have h3b := n_no h3 (x := 58) rfl
    have HN := hide (cl_none (nameAt_no1 (s := s) (i := i) (fun h => h3 h.2.2)))
    go_enter Tryd.func51, Tryd.ntmps51
    go_wp2
    exact cl_ret s i _ _ _ w rfl rfl HN.out rfl
  have h3b := n_yes h3 (x := 58) rfl
  obtain ⟨K, hK⟩ : ∃ K, lowTo s (i + 2) = K := ⟨_, rfl⟩
  have HK := hide hK
  have hKi : i + 2 ≤ K := by rw [← hK]; unfold lowTo; omega
  have hKs : K ≤ s.size := by rcases lowTo_out (s := s) (i := i + 2) (by omega) with h | ⟨h, _⟩ <;> omega
  clear hK
  have H2 := hide h2
  have H3 := hide h3
  clear h2 h3
  go_enter Tryd.func51, Tryd.ntmps51
  go_wp2
  go_loop [6] (fun kv => ∃ k : Nat, kv = .int .i64 (k : Int) ∧ i + 2 ≤ k ∧ k ≤ K) (fun kv => K - (intOf kv).toNat)
  case atStart => exact ⟨i + 2, by simp, Nat.le_refl _, hKi⟩
  case round =>
    obtain ⟨k, rfl, hk1, hk2⟩ := hrel
    by_cases hlt : k < K
    · obtain ⟨hks, hlow⟩ := lowTo_in (s := s) (i := i + 2) (k := k) (by omega) (by rw [HK.out]; exact hlt)
      obtain ⟨l1, l2⟩ := low_yes hlow
      have hkI : (k : Int) < (s.size : Int) := by omega
      clear hlow
      go_wp2
      go_round
      case rel => exact ⟨k + 1, by simp, by omega, by omega⟩
      case measure => simp [intOf]; omega
    · have hke : k = K := by omega
      subst hke
      have hex : (s.size : Int) ≤ (k : Int) ∨ ∃ h : k < s.size, ¬ ((97 : Int) ≤ ((s[k]'h).toNat : Int)) ∨ ((97 : Int) ≤ ((s[k]'h).toNat : Int) ∧ ¬ (((s[k]'h).toNat : Int) ≤ 122)) := by
        rcases lowTo_out (s := s) (i := i + 2) (by omega) with h | ⟨h, h2⟩
        · left; rw [HK.out] at h; omega
        · right
          simp only [HK.out] at h h2
          exact ⟨h, low_no h2⟩
      have hend : (clAns s i = .tuple #[.string ⟨#[]⟩, .int .i64 (-1)] ∧ (k = i + 2 ∨ (i + 2 < k ∧ (s.size ≤ k + 1 ∨ ∃ h : k + 1 < s.size, s[k]'(by omega) ≠ 58 ∨ (s[k]'(by omega) = 58 ∧ s[k + 1]'h ≠ 93))))) ∨ (i + 2 < k ∧ ∃ h : k + 1 < s.size, s[k]'(by omega) = 58 ∧ s[k + 1]'h = 93 ∧ clAns s i = .tuple #[.string (s.extract (i + 2) k), .int .i64 ((k : Int) + 2)]) := by
        by_cases e1 : k = i + 2
        · exact .inl ⟨cl_none (nameAt_no2 (.inl (by rw [HK.out]; exact e1))), .inl e1⟩
        by_cases e2 : k + 1 < s.size
        case neg => exact .inl ⟨cl_none (nameAt_no2 (.inr (by simp only [HK.out]; exact fun h => e2 h.1))), .inr ⟨by omega, .inl (by omega)⟩⟩
        by_cases e3 : s[k]'(by omega) = 58
        case neg => exact .inl ⟨cl_none (nameAt_no2 (.inr (by simp only [HK.out]; exact fun h => e3 h.2.1))), .inr ⟨by omega, .inr ⟨e2, .inl e3⟩⟩⟩
        by_cases e4 : s[k + 1]'e2 = 93
        case neg => exact .inl ⟨cl_none (nameAt_no2 (.inr (by simp only [HK.out]; exact fun h => e4 h.2.2))), .inr ⟨by omega, .inr ⟨e2, .inr ⟨e3, e4⟩⟩⟩⟩
        exact .inr ⟨by omega, e2, e3, e4, cl_some HK.out (nameAt_yes h1 H2.out H3.out (by rw [HK.out]; exact e1) (by rw [HK.out]; exact e2) (by simp only [HK.out]; exact e3) (by simp only [HK.out]; exact e4))⟩
      have hkI2 : ¬ ((k : Int) < (s.size : Int)) ∨ (k : Int) < (s.size : Int) := by omega
      clear HK H2 H3 hk2 hlt
      have hex2 : ¬ ((k : Int) < (s.size : Int)) ∨ ((k : Int) < (s.size : Int) ∧ ∃ h : k < s.size, ¬ ((97 : Int) ≤ ((s[k]'h).toNat : Int))) ∨ ((k : Int) < (s.size : Int) ∧ ∃ h : k < s.size, (97 : Int) ≤ ((s[k]'h).toNat : Int) ∧ ¬ (((s[k]'h).toNat : Int) ≤ 122)) := by
        rcases hex with h | ⟨h, h2 | h2⟩
        · left; omega
        · exact .inr (.inl ⟨by omega, h, h2⟩)
        · exact .inr (.inr ⟨by omega, h, h2⟩)
      clear hex hkI2
      rcases hend with ⟨hn, e | ⟨hik, e | ⟨h, e | ⟨e, e2⟩⟩⟩⟩ | ⟨e, h, e3, e4, hn⟩
      · have HN := hide hn
        have hkb : ((k : Int) == (i : Int) + 2) = true := by rw [beq_iff_eq]; omega
        clear hn e
        rcases hex2 with f | ⟨f, _, f2⟩ | ⟨f, _, f2, f3⟩
        all_goals go_wp2
        all_goals exact cl_ret s i _ _ _ w rfl rfl HN.out rfl
      · have HN := hide hn
        have g3 : (s.size : Int) ≤ (k : Int) + 1 := by omega
        clear hn e
        have hkb : ((k : Int) == (i : Int) + 2) = false := by rw [beq_eq_false_iff_ne]; omega
        rcases hex2 with f | ⟨f, _, f2⟩ | ⟨f, _, f2, f3⟩
        all_goals go_wp2
        all_goals exact cl_ret s i _ _ _ w rfl rfl HN.out rfl
      · have HN := hide hn
        have g1 := n_no e (x := 58) rfl
        have g3 : ¬ ((s.size : Int) ≤ (k : Int) + 1) := by omega
        have g4 : (k : Int) + 1 < (s.size : Int) := by omega
        have g5 : (k : Int) < (s.size : Int) := by omega
        clear hn e
        have hkb : ((k : Int) == (i : Int) + 2) = false := by rw [beq_eq_false_iff_ne]; omega
        rcases hex2 with f | ⟨f, _, f2⟩ | ⟨f, _, f2, f3⟩
        · omega
        all_goals go_wp2
        all_goals exact cl_ret s i _ _ _ w rfl rfl HN.out rfl
      · have HN := hide hn
        have g1 := n_yes e (x := 58) rfl
        have g2 := n_no e2 (x := 93) rfl
        have g3 : ¬ ((s.size : Int) ≤ (k : Int) + 1) := by omega
        have g4 : (k : Int) + 1 < (s.size : Int) := by omega
        have g5 : (k : Int) < (s.size : Int) := by omega
        clear hn e e2
        have hkb : ((k : Int) == (i : Int) + 2) = false := by rw [beq_eq_false_iff_ne]; omega
        rcases hex2 with f | ⟨f, _, f2⟩ | ⟨f, _, f2, f3⟩
        · omega
        all_goals go_wp2
        all_goals exact cl_ret s i _ _ _ w rfl rfl HN.out rfl
      · have hkb : ((k : Int) == (i : Int) + 2) = false := by rw [beq_eq_false_iff_ne]; omega
        have HN := hide hn
        have g1 := n_yes e3 (x := 58) rfl
        have g2 := n_yes e4 (x := 93) rfl
        have g3 : ¬ ((s.size : Int) ≤ (k : Int) + 1) := by omega
        have g4 : (k : Int) + 1 < (s.size : Int) := by omega
        have g5 : (k : Int) < (s.size : Int) := by omega
        have g6 : (i : Int) + 2 ≤ (k : Int) := by omega
        have g7 : (k : Int) ≤ (s.size : Int) := by omega
        have g8 : (0 : Int) ≤ (i : Int) + 2 := by omega
        clear hn e3 e4
        rcases hex2 with f | ⟨f, _, f2⟩ | ⟨f, _, f2, f3⟩
        · omega
        all_goals go_wp2
        all_goals exact cl_ret s i _ _ _ w rfl rfl HN.out rfl
end Go.Proofs.YtiekhoehkgmbjaaDoor
