/- strings.Index, Cut, Split at one byte: the library's own texts, walked. -/
import Derived.Test.YtconbmfbokpklaaGreatDoorGErr
import Derived.Test.YtconbmfbokpklaaGreatDoorShelf
namespace Go.Proofs.YtconbmfbokpklaaGreatDoor
open Go.RowKit

set_option maxHeartbeats 1000000 in
theorem index_c (s : ByteArray) (c : UInt8) (w : World) :
    Calls Tryz.prog 121 #[.string s, .string ⟨#[c]⟩] w fun e w' => e = .returned (.int .i64 (Lib.indexByte s.data.toList c)) ∧ w' = w := by
  go_enter Tryz.func121, Tryz.ntmps121
  go_wp2_with (go_at_call 67; refine (Tryz.stringslite_Index_one _ _ _).mono ?_; rintro e w' ⟨rfl, rfl⟩)
  go_ret
  exact ⟨rfl, rfl⟩

/-- What stands ahead of the first such byte, and behind it. -/
def CutPost (c : UInt8) (s : ByteArray) (w : World) (e : Ending) (w' : World) : Prop :=
  ∃ (b a : ByteArray) (f : Bool), e = .returned (.tuple #[.string b, .string a, .bool f]) ∧ Below w.heap.size w w' ∧ ((f = true ∧ ∃ p t : List UInt8, s.data.toList = p ++ c :: t ∧ c ∉ p ∧ b = bs p ∧ a = bs t) ∨ (f = false ∧ c ∉ s.data.toList ∧ b = s))
theorem ext_before {s : ByteArray} {c : UInt8} {p t : List UInt8} (h : s.data.toList = p ++ c :: t) : s.extract 0 p.length = bs p ∧ s.extract (p.length + 1) s.size = bs t := by
  refine ⟨by rw [extract_bs, h]; simp, ?_⟩
  rw [extract_bs, ← size_list s, h]
  congr 1
  rw [List.drop_append, List.drop_of_length_le (by omega), show p.length + 1 - p.length = 1 from by omega]
  simp only [List.drop_succ_cons, List.drop_zero, List.nil_append]
  exact List.take_of_length_le (by simp; omega)
set_option maxHeartbeats 1000000 in
theorem cutLite_c (s : ByteArray) (c : UInt8) (w : World) (hs : s.size ≤ 1073741824) : Calls Tryz.prog 36 #[.string s, .string ⟨#[c]⟩] w (CutPost c s w) := by
  rcases idx_cases c s.data.toList with ⟨hi, hno⟩ | ⟨p, t, hr, hp, hi⟩
  · have HNO := hide hno
    have HI := hide (Tryz.stringslite_Index_one s c w)
    rw [hi] at HI
    clear hi hno
    go_enter Tryz.func36, Tryz.ntmps36
    go_wp2_with (go_at_call 67; refine (unhide HI).mono ?_; rintro e w' ⟨rfl, rfl⟩)
    go_ret3
    exact ⟨s, bs [], false, rfl, Below.refl _ _, .inr ⟨rfl, HNO.out, rfl⟩⟩
  · have hrs : p.length + 1 ≤ s.size := by rw [← size_list s, hr]; simp
    have HR := hide hr
    have HP := hide hp
    have HI := hide (Tryz.stringslite_Index_one s c w)
    rw [hi] at HI
    clear hi hr hp
    have hpp : (0 : Int) ≤ (p.length : Int) := by omega
    go_enter Tryz.func36, Tryz.ntmps36
    go_wp2_with (go_at_call 67; refine (unhide HI).mono ?_; rintro e w' ⟨rfl, rfl⟩)
    go_region
    go_wp2
    go_ret3
    exact ⟨_, _, true, rfl, (Below.refl _ _).drew, .inl ⟨rfl, p, t, HR.out, HP.out, (ext_before HR.out).1, (ext_before HR.out).2⟩⟩
set_option maxHeartbeats 1000000 in
theorem cut_c (s : ByteArray) (c : UInt8) (w : World) (hs : s.size ≤ 1073741824) : Calls Tryz.prog 18 #[.string s, .string ⟨#[c]⟩] w (CutPost c s w) := by
  go_enter Tryz.func18, Tryz.ntmps18
  go_wp2_with fail
  refine (cutLite_c s c _ hs).mono ?_
  rintro e w' ⟨b, a, f, rfl, hb, hcase⟩
  have HC := hide hcase
  clear hcase
  go_wp2
  go_ret3
  exact ⟨b, a, f, rfl, hb, HC.out⟩

/-! ### Split -/
theorem count_split (c : UInt8) (l : List UInt8) : (splitL c l).length = l.count c + 1 := by
  induction l with
  | nil => rfl
  | cons x r ih =>
    by_cases h : x = c
    · subst h; rw [split_same]; simp [ih]
    · obtain ⟨p, ps, e1, e2⟩ := split_other c x r h
      rw [e2]
      rw [e1] at ih
      rw [List.count_cons_of_ne h]
      simpa using ih
theorem split_at_byte {c : UInt8} {r : ByteArray} {p t : List UInt8} (h : r.data.toList = p ++ c :: t) (hp : c ∉ p) : cutS c r = r.extract 0 p.length :: cutS c (r.extract (p.length + 1) r.size) := by
  have e := ext_before h
  unfold cutS
  rw [e.1, e.2, h, split_hit c p t hp, data_bs]; rfl
theorem split_no_byte {c : UInt8} {r : ByteArray} (h : c ∉ r.data.toList) : cutS c r = [r] := by
  unfold cutS; rw [split_end c _ h]; rfl
set_option maxHeartbeats 2000000 in
set_option maxRecDepth 100000 in
theorem genSplit_c (s : ByteArray) (c : UInt8) (w : World) (hs : s.size ≤ 1000000) :
    Calls Tryz.prog 93 #[.string s, .string ⟨#[c]⟩, .int .i64 0, .int .i64 (-1)] w fun e w' => ∃ v, e = .returned v ∧ w'.ownsRow w.heap.size 9 1 v (cutS c s).length ((cutS c s).map Value.string) ∧ Below w.heap.size w w' := by
  obtain ⟨i0, hi, hz0, hz1, hz2⟩ := info_parts Tryz.info9
  have hcl := cutS_length c s
  have hcn : (cutS c s).length = s.data.toList.count c + 1 := by unfold cutS; rw [List.length_map]; exact count_split c _
  have HCT := hide (Tryz.strings_Count_one s c w)
  obtain ⟨N, hN⟩ : ∃ N : Nat, Lib.countByte s.data.toList c = N := ⟨_, rfl⟩
  rw [hN] at HCT
  have hN2 : (cutS c s).length = N + 1 := by rw [hcn, ← hN]; rfl
  clear hN hcn
  have hmin : min (N : Int) (s.size : Int) = (N : Int) := by omega
  have hNs : N ≤ s.size := by omega
  go_enter Tryz.func93, Tryz.ntmps93
  go_wp2_with (first | (go_at_call 120; refine (unhide HCT).mono ?_; rintro e w' ⟨rfl, rfl⟩) | (at_make; refine wpList_make_full _ rfl _ _ 55 rfl w'.heap.size 9 i0 (.string ⟨#[]⟩) 1 Tryz.underlying55 hi hz0 hz1 _ _ _ _ (N + 1) rfl rfl (by omega) (by omega) (by rw [hz2]; omega) (by unfold maxLen; omega) (Nat.le_refl _) ?_; intro w0 hown0 hgrow0))
  have hbl0 : Below w'.heap.size w' w0 := (Below.refl _ _).grown hgrow0 (Nat.le_refl _) (fun k h => by cases h)
  have hs0 := hown0.1
  obtain ⟨g, hg⟩ : ∃ g, g = w'.heap.size := ⟨_, rfl⟩
  rw [← hg] at hown0 ⊢
  have HG := hide hg
  obtain ⟨xs0, hx0⟩ : ∃ xs0, xs0 = (madeCells (Value.string ⟨#[]⟩).cells ((N + 1) * 1)).toList := ⟨_, rfl⟩
  rw [← hx0] at hown0 hs0
  clear hx0 hg hgrow0 HCT
  go_loopw [0, 10] (fun sv iv wr => ∃ (i : Nat) (r : ByteArray) (done : List ByteArray) (xs : List Value), i ≤ N ∧ iv = .int .i64 i ∧ sv = .string r ∧ cutS c s = done ++ cutS c r ∧ done.length = i ∧ r.size ≤ s.size ∧ wr.ownsRow g 9 1 (.slice (some ⟨g, 0, none⟩) (N + 1) (N + 1)) (N + 1) xs ∧ xs.take i = done.map Value.string ∧ Below g w' wr) (fun _ iv _ => N - (intOf iv).toNat)
  case atStart => exact ⟨0, s, [], xs0, Nat.zero_le _, rfl, rfl, rfl, rfl, Nat.le_refl _, hown0, rfl, by rw [HG.out]; exact hbl0⟩
  case round =>
    obtain ⟨i, r, done, xs, hiN, rfl, rfl, hcut, hdl, hrs, hown, hxs, hnx⟩ := hrel
    have hxl := hown.1
    by_cases hlt : i < N
    · rcases idx_cases c r.data.toList with ⟨_, hno⟩ | ⟨p, t, hr, hp, hidx⟩
      · exfalso
        have e1 := congrArg List.length hcut
        rw [List.length_append, split_no_byte hno, hN2, hdl] at e1
        simp at e1; omega
      · have HI := hide (index_c r c wr)
        rw [hidx] at HI
        have hpl : p.length + 1 ≤ r.size := by rw [← size_list r, hr]; simp
        have HCUT : Hid (cutS c s = (done ++ [r.extract 0 p.length]) ++ cutS c (r.extract (p.length + 1) r.size)) := by
          unfold Hid; rw [hcut, split_at_byte hr hp, List.append_assoc]; rfl
        have hi2 : i < xs.length := by omega
        obtain ⟨x0, hx0⟩ : ∃ x0, xs[i]? = some x0 := ⟨_, List.getElem?_eq_getElem hi2⟩
        have hci := own_cells hown hx0
        have hfr := own_frozen hown i
        clear hx0
        have HOW := hide hown
        have HXS := hide hxs
        have hsz2 : (r.extract (p.length + 1) r.size).size ≤ s.size := by simp; omega
        clear hr hp hidx hcut hown hxs
        go_wp2_with (go_at_call 121; refine (unhide HI).mono ?_; rintro e w2 ⟨rfl, rfl⟩)
        go_roundw
        case rel =>
          refine ⟨i + 1, _, done ++ [r.extract 0 p.length], xs.set i (.string (r.extract 0 p.length)), by omega, by go_num, rfl, HCUT.out, by simp [hdl], hsz2, own_set (unhide HOW) _, ?_, hnx.setCell (p := ⟨g, i, none⟩) (Nat.le_refl _) _⟩
          rw [List.take_succ_eq_append_getElem (by rw [List.length_set]; exact hi2), List.take_set_of_le (Nat.le_refl _), HXS.out, List.getElem_set_self, List.map_append]
          rfl
        case measure => simp [intOf]; omega
    · obtain rfl : i = N := by omega
      have hrr : cutS c r = [r] := by
        rcases idx_cases c r.data.toList with ⟨_, hno⟩ | ⟨p, t, hr, hp, _⟩
        · exact split_no_byte hno
        · exfalso
          have e1 := congrArg List.length hcut
          rw [List.length_append, split_at_byte hr hp, hN2, hdl, List.length_cons] at e1
          have e2 : 1 ≤ (cutS c (r.extract (p.length + 1) r.size)).length := by unfold cutS; rw [List.length_map, count_split]; omega
          omega
      rw [hrr] at hcut
      have hi2 : i < xs.length := by omega
      obtain ⟨x0, hx0⟩ : ∃ x0, xs[i]? = some x0 := ⟨_, List.getElem?_eq_getElem hi2⟩
      have hci := own_cells hown hx0
      have hfr := own_frozen hown i
      clear hx0
      have HOW := hide hown
      have HXS := hide hxs
      have HCUT := hide hcut
      clear hown hxs hcut hrr
      go_wp2
      go_ret
      refine ⟨_, rfl, ?_, by rw [← HG.out]; exact hnx.setCell (p := ⟨g, i, none⟩) (Nat.le_refl _) _⟩
      rw [← HG.out, hN2, HCUT.out]
      have e : (done ++ [r]).map Value.string = xs.set i (.string r) := by
        have h1 : xs.set i (.string r) = (xs.set i (.string r)).take (i + 1) := by rw [List.take_of_length_le (by rw [List.length_set]; omega)]
        rw [h1, List.take_succ_eq_append_getElem (by rw [List.length_set]; exact hi2), List.take_set_of_le (Nat.le_refl _), HXS.out, List.getElem_set_self, List.map_append]
        rfl
      rw [e]
      exact own_set (unhide HOW) _
set_option maxHeartbeats 1000000 in
theorem split_c (s : ByteArray) (c : UInt8) (w : World) (hs : s.size ≤ 1000000) :
    Calls Tryz.prog 68 #[.string s, .string ⟨#[c]⟩] w fun e w' => ∃ v, e = .returned v ∧ w'.ownsRow w.heap.size 9 1 v (cutS c s).length ((cutS c s).map Value.string) ∧ Below w.heap.size w w' := by
  go_enter Tryz.func68, Tryz.ntmps68
  go_wp2_with fail
  refine (genSplit_c s c _ hs).mono ?_
  rintro e w' ⟨v, rfl, hown, hb⟩
  go_wp2
  go_ret
  exact ⟨_, rfl, hown, hb⟩
end Go.Proofs.YtconbmfbokpklaaGreatDoor
