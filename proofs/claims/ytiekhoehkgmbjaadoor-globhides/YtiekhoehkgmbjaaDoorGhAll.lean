import Derived.Test.YtiekhoehkgmbjaaDoorGbMatch
import Derived.Lib.Strings
import Derived.Lib.Slices
import Derived.Lib.Walk
import Derived.Lib.Bytealg
import Derived.RangeFuncBox
import Derived.RangeFuncWrites
import Derived.RangeFuncLeaves
import Derived.RangeFuncBound
import Derived.RangeFuncCalls
import Derived.Shelf.Abstract
import Derived.WalkKit
import Derived.OwnWalkIn
import Derived.TacticsInMore
import Derived.LoopNIn
import Derived.LoopIn
import Derived.Test.YtiekhoehkgmbjaaDoorGrD
/- glob: outline, begins. -/
namespace Go.Proofs.YtiekhoehkgmbjaaDoor
open Go.RowKit Go.Maps

def beginsB (a b : List UInt8) : Bool := !Lib.hasPrefix b [46] || Lib.hasPrefix a [46]
set_option maxRecDepth 100000 in
theorem begins_any (a b : ByteArray) (w : World) :
    Calls Tryd.prog 47 #[.string a, .string b] w fun e w' => e = .returned (.bool (beginsB a.data.toList b.data.toList)) ∧ w' = w := by
  have h1 : Calls Tryd.prog 66 #[.string b, .string ⟨#[46]⟩] w fun e w' => e = .returned (.bool (Lib.hasPrefix b.data.toList [46])) ∧ w' = w := Tryd.strings_HasPrefix b ⟨#[46]⟩ w
  have h2 : Calls Tryd.prog 66 #[.string a, .string ⟨#[46]⟩] w fun e w' => e = .returned (.bool (Lib.hasPrefix a.data.toList [46])) ∧ w' = w := Tryd.strings_HasPrefix a ⟨#[46]⟩ w
  unfold beginsB
  obtain ⟨x, hx⟩ : ∃ x, Lib.hasPrefix b.data.toList [46] = x := ⟨_, rfl⟩
  obtain ⟨y, hy⟩ : ∃ y, Lib.hasPrefix a.data.toList [46] = y := ⟨_, rfl⟩
  rw [hx] at h1 ⊢
  rw [hy] at h2 ⊢
  have H1 := hide h1
  have H2 := hide h2
  clear h1 h2 hx hy
  go_enter Tryd.func47, Tryd.ntmps47
  go_wp2_with fail
  refine H1.out.mono ?_
  rintro e w2 ⟨rfl, hw⟩
  rw [hw]
  clear hw w2
  cases x with
  | false =>
    go_wp2
    go_ret
    exact ⟨rfl, rfl⟩
  | true =>
    go_wp2_with fail
    refine H2.out.mono ?_
    rintro e w2 ⟨rfl, hw⟩
    rw [hw]
    clear hw w2
    go_wp2
    go_ret
    exact ⟨rfl, rfl⟩

theorem made_zero8 (n : Nat) : (madeCells (Value.int .u8 0).cells (n * 1)).toList = u8s (List.replicate n 0) := by
  apply List.ext_getElem?
  intro i
  unfold u8s
  rw [List.map_replicate, List.getElem?_replicate]
  show (madeCells #[Value.int .u8 0] (n * 1)).toList[i]? = _
  unfold madeCells
  rw [Nat.mul_one, Array.toList_map, List.getElem?_map, Array.toList_range]
  by_cases hi : i < n
  · rw [List.getElem?_range hi, if_pos hi]
    simp [Nat.mod_one]
  · rw [List.getElem?_eq_none (by simp; omega), if_neg hi]
    rfl
/-- What is written so far. -/
def outL (ps : List PcD) (i : Nat) : List UInt8 := (ps.map writtenD).take i ++ List.replicate (ps.length - i) 0
theorem outL_len (ps : List PcD) (i : Nat) (h : i ≤ ps.length) : (outL ps i).length = ps.length := by
  unfold outL
  rw [List.length_append, List.length_take, List.length_map, List.length_replicate]
  omega
theorem outL_set (ps : List PcD) (i : Nat) (h : i < ps.length) : (outL ps i).set i (writtenD (ps[i]'h)) = outL ps (i + 1) := by
  unfold outL
  have hl : ((ps.map writtenD).take i).length = i := by rw [List.length_take, List.length_map]; omega
  rw [List.set_append_right _ _ (by omega), hl, Nat.sub_self]
  obtain ⟨m, hm⟩ : ∃ m, ps.length - i = m + 1 := ⟨ps.length - i - 1, by omega⟩
  have hm2 : ps.length - (i + 1) = m := by omega
  rw [hm, hm2, List.replicate_succ, List.set_cons_zero, List.take_succ_eq_append_getElem (by rw [List.length_map]; exact h), List.getElem_map, List.append_assoc]
  rfl
def OutB (W : World) (b : Nat) (l : List UInt8) : Prop := W.heap[b]? = some (.cells (u8s l).toArray 5 (0, 0))
theorem OutB.set {W : World} {b : Nat} {l : List UInt8} (h : OutB W b l) (i : Nat) (c : UInt8) : OutB (W.setCell ⟨b, i, none⟩ (.int .u8 (c.toNat : Int))) b (l.set i c) := by
  obtain ⟨hl, hk⟩ := Array.getElem?_eq_some_iff.1 h
  unfold OutB
  show (W.heap.modify b _)[b]? = _
  rw [Array.getElem?_eq_getElem (by rw [Array.size_modify]; exact hl), Array.getElem_modify_self, hk]
  have e : (u8s l).toArray.set! i (.int .u8 (c.toNat : Int)) = (u8s (l.set i c)).toArray := by
    unfold u8s
    simp [List.map_set]
  show some (Obj.cells ((u8s l).toArray.set! i (.int .u8 (c.toNat : Int))) 5 (0, 0)) = _
  rw [e]
set_option maxRecDepth 100000 in
set_option maxHeartbeats 1000000 in
theorem outline_any (ps : List PcD) (v : Value) (B : Nat) (w : World) (h : PsRow B w v ps) (hlen : ps.length ≤ 200) :
    Calls Tryd.prog 46 #[v] w fun e w' => e = .returned (.string ⟨(ps.map writtenD).toArray⟩) ∧ Below w.heap.size w w' := by
  obtain ⟨p, c, hv⟩ : ∃ p c, v = .slice p ps.length c := by
    rcases h.form with ⟨e, e2⟩ | ⟨g, c, e, _⟩
    · exact ⟨_, _, by rw [e, e2]; rfl⟩
    · exact ⟨_, _, e⟩
  subst hv
  obtain ⟨i0, hi0, hz0, hz1, hz2⟩ := info_parts Tryd.info5'
  obtain ⟨W, hmk, hown, hgr⟩ := run_makeSlice_full (P := Tryd.prog) (w := w) w.heap.size 45 5 i0 (.int .u8 0) 1 Tryd.u45 hi0 hz0 hz1 .i64 .i64 ps.length (by omega) (by rw [hz2]; omega) (by unfold maxLen; omega) (Nat.le_refl _)
  have hout : OutB W w.heap.size (outL ps 0) := by
    rcases hown.2 with ⟨e, _⟩ | ⟨g, cap, cur, e, _, hg, _, _, hsz, hct⟩
    · cases e
    · cases e
      have e2 : cur.toList = u8s (outL ps 0) := by
        rw [List.take_of_length_le (by rw [Array.length_toList, hsz]; exact Nat.le_refl _), made_zero8] at hct
        rw [hct]
        unfold outL
        simp
      unfold OutB
      rw [hg, ← e2]
  have hbw : Below w.heap.size w W := ⟨hgr.os, hgr.tape, hgr.output, hgr.size, fun k hk => hgr.block k hk (fun e => by cases e)⟩
  have HP := hide h
  have HO := hide hout
  have HB := hide hbw
  clear h hown hgr hout hbw
  go_enter Tryd.func46, Tryd.ntmps46
  go_wp2
  go_loopw [10] (fun iv wr => ∃ i : Nat, iv = .int .i64 (i : Int) ∧ i ≤ ps.length ∧ OutB wr w.heap.size (outL ps i) ∧ Below w.heap.size w wr) (fun iv _ => ps.length - (intOf iv).toNat)
  case atStart => exact ⟨0, rfl, Nat.zero_le _, HO.out, HB.out⟩
  case round =>
    obtain ⟨i, rfl, hi, hout, hb⟩ := hrel
    by_cases hlt : i < ps.length
    · have hiI : (i : Int) < (ps.length : Int) := by omega
      obtain ⟨g, hpe, hgs⟩ : ∃ g, p = some ⟨g, 0, none⟩ ∧ g < w.heap.size := by
        rcases HP.out.form with ⟨_, e⟩ | ⟨g, c', e, h1, h2, _⟩
        · rw [e] at hlt; simp at hlt
        · cases e; exact ⟨g, rfl, h2⟩
      subst hpe
      have hc := ((HP.out.pc (List.getElem?_eq_getElem hlt)).below hb hgs).w0
      have hl := outL_len ps i hi
      obtain ⟨u, hcell⟩ : ∃ u, wr.cell? ⟨w.heap.size, i, none⟩ = some u := by
        rw [cell_of_row _ _ _ _ _ _ hout]
        unfold u8s
        simp [hl, hlt]
      have hfr : wr.frozen? ⟨w.heap.size, i, none⟩ = false := by
        unfold OutB at hout
        simp [World.frozen?, hout]
      have hn := hout.set i (writtenD (ps[i]'hlt))
      rw [outL_set ps i hlt] at hn
      have hg := set_grown wr w.heap.size i (.int .u8 ((writtenD (ps[i]'hlt)).toNat : Int))
      have hb' : Below w.heap.size w (wr.setCell ⟨w.heap.size, i, none⟩ (.int .u8 ((writtenD (ps[i]'hlt)).toNat : Int))) := hb.grown hg hb.size (fun k e => by cases e; exact Nat.le_refl _)
      have HN := hide hn
      have HB' := hide hb'
      clear hn hb' hg hout hb hl
      go_wp2
      go_roundw
      case rel => exact ⟨i + 1, by simp, by omega, HN.out, HB'.out⟩
      case measure => simp [intOf]; omega
    · have hiI : ¬ ((i : Int) < (ps.length : Int)) := by omega
      have hie : i = ps.length := by omega
      subst hie
      have hL : outL ps ps.length = ps.map writtenD := by unfold outL; rw [Nat.sub_self, List.replicate_zero, List.append_nil, List.take_of_length_le (by simp)]
      rw [hL] at hout
      have hcv := conv_any (B := 0) (w := wr) (v := .slice (some ⟨w.heap.size, 0, none⟩) ps.length ps.length) (l := ps.map writtenD) (by
        rw [List.length_map]
        exact ⟨by rw [u8s_len, List.length_map]; omega, .inr ⟨w.heap.size, ps.length, _, rfl, Nat.zero_le _, hout, Nat.le_refl _, by unfold maxLen; omega, by rw [List.size_toArray, u8s_len, List.length_map]; omega, by simp; exact List.take_of_length_le (by rw [u8s_len, List.length_map]; exact Nat.le_refl _)⟩⟩)
      have HB := hide hb
      clear hout hb hL
      go_wp2
      go_ret
      exact ⟨rfl, HB.out⟩

set_option maxRecDepth 100000 in
set_option maxHeartbeats 1000000 in
/-- writesDots without way. -/
theorem dots_flat (ps : List PcD) (v : Value) (B : Nat) (s : ByteArray) (w : World) (h : PsRow B w v ps) (hlen : ps.length ≤ 200) :
    Calls Tryd.prog 28 #[v, .string s, .bool false] w fun e w' => e = .returned (.bool (beginsB (ps.map writtenD) s.data.toList)) ∧ Below w.heap.size w w' := by
  obtain ⟨W1, hW1⟩ : ∃ W1, w.alloc (.cells #[.bool false] 4) = W1 := ⟨_, rfl⟩
  have b1 : Below w.heap.size w W1 := by rw [← hW1]; exact (Below.refl _ _).alloc (Nat.le_refl _) _
  have z1 : W1.heap.size = w.heap.size + 1 := by rw [← hW1, World.size_alloc]
  have hn1 : W1.heap[w.heap.size]? = some (.cells #[.bool false] 4 (0, 0)) := by rw [← hW1]; exact World.alloc_heap_new w _
  have hrow1 : PsRow B W1 v ps := own_below h b1
  have hou := outline_any ps v B W1 hrow1 hlen
  obtain ⟨va, vn, vc, rfl⟩ : ∃ a n c, v = .slice a n c := by
    rcases h.form with ⟨e, _⟩ | ⟨g, c, e, _⟩ <;> exact ⟨_, _, _, e⟩
  have HN1 := hide hn1
  have HB1 := hide b1
  have HZ1 := hide z1
  clear h hrow1 b1 z1 hn1
  go_enter Tryd.func28, Tryd.ntmps28
  go_wp2_with fail
  refine hou.mono ?_
  rintro e w2 ⟨rfl, b2⟩
  clear hou
  have hn2 : w2.heap[w.heap.size]? = some (.cells #[.bool false] 4 (0, 0)) := (b2.block _ (by rw [HZ1.out]; omega)).trans HN1.out
  have b02 : Below w.heap.size w w2 := HB1.out.trans (b2.mono HB1.out.size)
  have hbe := begins_any ⟨(ps.map writtenD).toArray⟩ s w2
  have HN2 := hide hn2
  have HB02 := hide b02
  clear hn2 b02 b2
  go_wp2_with fail
  refine hbe.mono ?_
  rintro e w3 ⟨rfl, hw⟩
  rw [hw]
  clear hw w3 hbe
  have hn2 := HN2.out
  have hc0 : w2.cell? ⟨w.heap.size, 0, none⟩ = some (.bool false) := by rw [cell_of_row _ _ _ _ _ _ hn2]; rfl
  have hf0 : w2.frozen? ⟨w.heap.size, 0, none⟩ = false := by simp [World.frozen?, hn2]
  obtain ⟨r, hr⟩ : ∃ r, beginsB (ps.map writtenD) s.data.toList = r := ⟨_, rfl⟩
  obtain ⟨W7, hW7⟩ : ∃ W7, w2.setCell ⟨w.heap.size, 0, none⟩ (.bool r) = W7 := ⟨_, rfl⟩
  have hn7 : W7.heap[w.heap.size]? = some (.cells #[.bool r] 4 (0, 0)) := by
    rw [← hW7]
    obtain ⟨hl, hk⟩ := Array.getElem?_eq_some_iff.1 hn2
    show (w2.heap.modify w.heap.size _)[w.heap.size]? = _
    rw [Array.getElem?_eq_getElem (by rw [Array.size_modify]; exact hl), Array.getElem_modify_self, hk]
    rfl
  have hb7 : Below w.heap.size w W7 := by
    rw [← hW7]
    exact HB02.out.grown (set_grown w2 w.heap.size 0 (.bool r)) HB02.out.size (fun k e => by cases e; exact Nat.le_refl _)
  have hc7 : W7.cell? ⟨w.heap.size, 0, none⟩ = some (.bool r) := by rw [cell_of_row _ _ _ _ _ _ hn7]; rfl
  have HB7 := hide hb7
  have HR := hide hr
  have hr' : beginsB (List.map writtenD ps) s.data.toList = r := hr
  clear hn7 hb7 hn2
  simp only [hr']
  clear hr hr'
  go_wp2
  try rw [hW7]
  exact bodyPost_ret (v := .bool r) (by simp [results, Tryd.results28, go_sem, hc7]) rfl ⟨by rw [HR.out], HB7.out⟩
end Go.Proofs.YtiekhoehkgmbjaaDoor
/- A range over strings.SplitSeq at the one byte /. -/
namespace Go.Proofs.YtiekhoehkgmbjaaDoor
open Go.RowKit Go.Shelf
def splitL (c : UInt8) : List UInt8 → List (List UInt8)
  | [] => [[]]
  | x :: r => if x = c then [] :: splitL c r else
      match splitL c r with
      | [] => [[x]]
      | p :: ps => (x :: p) :: ps

theorem split_ne (c : UInt8) (l : List UInt8) : splitL c l ≠ [] := by
  cases l with
  | nil => simp [splitL]
  | cons x r =>
    unfold splitL
    by_cases h : x = c
    · rw [if_pos h]; simp
    · rw [if_neg h]; cases splitL c r <;> simp
theorem split_same (c : UInt8) (r : List UInt8) : splitL c (c :: r) = [] :: splitL c r := by
  conv => lhs; unfold splitL
  rw [if_pos rfl]
theorem split_other (c x : UInt8) (r : List UInt8) (h : ¬ x = c) : ∃ p ps, splitL c r = p :: ps ∧ splitL c (x :: r) = (x :: p) :: ps := by
  cases e : splitL c r with
  | nil => exact absurd e (split_ne c r)
  | cons p ps =>
    refine ⟨p, ps, rfl, ?_⟩
    conv => lhs; unfold splitL
    rw [if_neg h, e]
theorem split_end (c : UInt8) (p : List UInt8) (h : c ∉ p) : splitL c p = [p] := by
  induction p with
  | nil => rfl
  | cons x r ih =>
    have hx : ¬ x = c := fun e => h (by simp [e])
    obtain ⟨p, ps, e1, e2⟩ := split_other c x r hx
    rw [ih (fun hm => h (by simp [hm]))] at e1
    simp only [List.cons.injEq] at e1
    rw [e2, ← e1.1, ← e1.2]
theorem split_hit (c : UInt8) (p r : List UInt8) (h : c ∉ p) : splitL c (p ++ c :: r) = p :: splitL c r := by
  induction p with
  | nil => exact split_same c r
  | cons x q ih =>
    have hx : ¬ x = c := fun e => h (by simp [e])
    obtain ⟨p, ps, e1, e2⟩ := split_other c x (q ++ c :: r) hx
    rw [ih (fun hm => h (by simp [hm]))] at e1
    simp only [List.cons.injEq] at e1
    rw [List.cons_append, e2, ← e1.1, ← e1.2]
theorem split_length (c : UInt8) (l : List UInt8) : (splitL c l).length ≤ l.length + 1 := by
  induction l with
  | nil => simp [splitL]
  | cons x r ih =>
    by_cases h : x = c
    · subst h; rw [split_same]; simp; omega
    · obtain ⟨p, ps, e1, e2⟩ := split_other c x r h
      rw [e1] at ih
      rw [e2]; simp at ih ⊢; omega

def bs (l : List UInt8) : ByteArray := ⟨l.toArray⟩
theorem bs_data (s : ByteArray) : bs s.data.toList = s := rfl
theorem data_bs (l : List UInt8) : (bs l).data.toList = l := rfl
theorem bs_inj {s t : ByteArray} (h : s.data.toList = t.data.toList) : s = t := by
  rw [← bs_data s, ← bs_data t, h]
theorem extract_bs (s : ByteArray) (a b : Nat) : s.extract a b = bs ((s.data.toList.drop a).take (b - a)) := by
  apply bs_inj
  rw [data_bs, ByteArray.data_extract, Array.toList_extract, List.extract_eq_take_drop]

def cutS (c : UInt8) (s : ByteArray) : List ByteArray := (splitL c s.data.toList).map bs
def keep (p : ByteArray) : Bool := !p.toList.isEmpty
theorem size_list (s : ByteArray) : s.data.toList.length = s.size := by simp
/-- Where the first '/' stands; -1: nowhere. -/
def idxS (r : ByteArray) : Int := Lib.indexByte r.data.toList 47
theorem idx_cases (c : UInt8) (l : List UInt8) : (Lib.indexByte l c = -1 ∧ c ∉ l) ∨ ∃ p r, l = p ++ c :: r ∧ c ∉ p ∧ Lib.indexByte l c = (p.length : Int) := by
  induction l with
  | nil => exact .inl ⟨rfl, by simp⟩
  | cons b l ih =>
    by_cases hb : b = c
    · subst hb
      exact .inr ⟨[], l, rfl, by simp, by simp [Lib.indexByte]⟩
    · have hbb : (b == c) = false := by simpa using hb
      rcases ih with ⟨h1, h2⟩ | ⟨p, r, rfl, h2, h3⟩
      · exact .inl ⟨by simp [Lib.indexByte, hbb, h1], by simp [h2]; exact fun e => hb e.symm⟩
      · refine .inr ⟨b :: p, r, rfl, by simp [h2]; exact fun e => hb e.symm, ?_⟩
        have hne : ¬ ((p.length : Int) = -1) := by omega
        simp [Lib.indexByte, hbb, h3, hne]
theorem idxS_cases (r : ByteArray) : (idxS r = -1 ∧ (47 : UInt8) ∉ r.data.toList) ∨ ∃ p t : List UInt8, r.data.toList = p ++ 47 :: t ∧ (47 : UInt8) ∉ p ∧ idxS r = (p.length : Int) := idx_cases 47 r.data.toList

set_option maxHeartbeats 1000000 in
set_option maxRecDepth 100000 in
theorem indexByte_any (s : ByteArray) (c : Int) (w : World) :
    Calls Tryd.prog 79 #[.string s, .int .u8 c] w fun e w' => e = .returned (.int .i64 (Lib.indexByte s.data.toList c.toNat.toUInt8)) ∧ w' = w := by
  go_enter Tryd.func79, Tryd.ntmps79
  go_wp2
  rw [run_callFunc_extern Tryd.func89 (by kernel_rfl) (by kernel_rfl) (by kernel_rfl) (e := Extern.BytealgIndexByte.indexByte) (by kernel_rfl), Lib.run_indexByteString]
  simp only [Result.andThen]
  rw [Oper.upon_value]
  go_wp2
  go_ret
  exact ⟨rfl, rfl⟩

set_option maxHeartbeats 2000000 in
set_option maxRecDepth 100000 in
theorem indexLite_any (s : ByteArray) (w : World) :
    Calls Tryd.prog 87 #[.string s, .string ⟨#[47]⟩] w fun e w' => e = .returned (.int .i64 (idxS s)) ∧ w' = w := by
  go_enter Tryd.func87, Tryd.ntmps87
  go_wp2_with (go_at_call 79; refine (indexByte_any _ _ _).mono ?_; rintro e w' ⟨rfl, rfl⟩)
  · have h : ([47] == s.toList) = true := by assumption
    go_ret
    refine ⟨?_, rfl⟩
    have e : s.data.toList = [47] := by rw [← Lib.toList_data]; exact (beq_iff_eq.1 h).symm
    unfold idxS
    rw [e]
    simp [Lib.indexByte]
  · go_ret
    exact ⟨rfl, rfl⟩

set_option maxHeartbeats 1000000 in
theorem index_any (s : ByteArray) (w : World) :
    Calls Tryd.prog 76 #[.string s, .string ⟨#[47]⟩] w fun e w' => e = .returned (.int .i64 (idxS s)) ∧ w' = w := by
  go_enter Tryd.func76, Tryd.ntmps76
  go_wp2_with (go_at_call 87; refine (indexLite_any _ _).mono ?_; rintro e w' ⟨rfl, rfl⟩)
  go_ret
  exact ⟨rfl, rfl⟩
theorem set_block (A : World) (bx k : Nat) (v : Value) (o : Obj) (hne : k ≠ bx) (h : A.heap[k]? = some o) : (A.setCell ⟨bx, 0, none⟩ v).heap[k]? = some o :=
  ((grownBy_setCell' A bx v).block k (Array.getElem?_eq_some_iff.1 h).1 (fun e => hne (Option.some.inj e))).trans h

section
attribute [local go_sem] Oper.semAt_some
theorem cutS_miss {r : ByteArray} (h : (47 : UInt8) ∉ r.data.toList) : cutS 47 r = [r] := by
  unfold cutS; rw [split_end 47 _ h]; rfl
theorem cutS_hit {r : ByteArray} {p t : List UInt8} (h : r.data.toList = p ++ 47 :: t) (hp : (47 : UInt8) ∉ p) : cutS 47 r = r.extract 0 p.length :: cutS 47 (r.extract (p.length + 1) r.size) := by
  have e1 : r.extract 0 p.length = bs p := by rw [extract_bs, h]; simp
  have e2 : r.extract (p.length + 1) r.size = bs t := by
    rw [extract_bs, ← size_list r, h]
    congr 1
    rw [List.drop_append, List.drop_of_length_le (by omega), show p.length + 1 - p.length = 1 from by omega]
    simp only [List.drop_succ_cons, List.drop_zero, List.nil_append]
    exact List.take_of_length_le (by simp; omega)
  unfold cutS
  rw [e1, e2, h, split_hit 47 p t hp, data_bs]
  rfl
theorem cutS_ne (r : ByteArray) : 1 ≤ (cutS 47 r).length := by
  unfold cutS
  rw [List.length_map]
  cases e : splitL 47 r.data.toList with
  | nil => exact absurd e (split_ne _ _)
  | cons p ps => simp

/-- How long the text in a box is: for the loop's measure. -/
def boxLen (W : World) (b : Nat) : Nat := match W.cell? ⟨b, 0, none⟩ with
  | some (.string r) => r.size
  | _ => 0
theorem boxLen_of {W : World} {b t : Nat} {r : ByteArray} (h : Boxed W b t (.string r)) : boxLen W b = r.size := by
  unfold boxLen; rw [h.cell]

def KeepBoxes (b1 b2 b3 : Nat) (W W' : World) : Prop := ∀ k, (k = b1 ∨ k = b2 ∨ k = b3) → W'.heap[k]? = W.heap[k]?

set_option maxHeartbeats 1000000 in
theorem splitSeq_in (n : Nat) (s sep : ByteArray) (w : World) :
    CallsIn Fence.wide n Tryd.prog 68 #[.string s, .string sep, .int .i64 0] w fun e w' => e = .returned (.func (.func 77) #[] #[.pointer (some ⟨w.heap.size + 1, 0, none⟩), .pointer (some ⟨w.heap.size, 0, none⟩), .pointer (some ⟨w.heap.size + 2, 0, none⟩)]) ∧ w' = ((w.alloc (.cells #[.string s] 9)).alloc (.cells #[.string sep] 9)).alloc (.cells #[.int .i64 0] 3) := by
  refine callsIn_of_wp Tryd.func68 rfl trivial ?_ rfl
  simp only [Tryd.ntmps68, List.size_toArray, List.length_cons, List.length_nil, Nat.reduceAdd, Nat.reduceSub, Array.replicate_succ, Array.replicate_zero, List.push_toArray, List.append_toArray, List.nil_append, List.cons_append]
  gi_wp2
  go_ret
  exact ⟨rfl, rfl⟩
set_option maxHeartbeats 1000000 in
theorem SplitSeq_in (n : Nat) (hn : 1 ≤ n) (s sep : ByteArray) (w : World) :
    CallsIn Fence.wide n Tryd.prog 49 #[.string s, .string sep] w fun e w' => e = .returned (.func (.func 77) #[] #[.pointer (some ⟨w.heap.size + 1, 0, none⟩), .pointer (some ⟨w.heap.size, 0, none⟩), .pointer (some ⟨w.heap.size + 2, 0, none⟩)]) ∧ w' = ((w.alloc (.cells #[.string s] 9)).alloc (.cells #[.string sep] 9)).alloc (.cells #[.int .i64 0] 3) := by
  refine callsIn_of_wp Tryd.func49 rfl trivial ?_ rfl
  simp only [Tryd.ntmps49, List.size_toArray, List.length_cons, List.length_nil, Nat.reduceAdd, Nat.reduceSub, Array.replicate_succ, Array.replicate_zero, List.push_toArray, List.append_toArray, List.nil_append, List.cons_append]
  gi_wp2_with (refine ⟨trivial, ?_⟩; gi_at_call 68; refine (splitSeq_in _ _ _ _).mono ?_; rintro e w' ⟨rfl, rfl⟩)
  go_ret
  exact ⟨rfl, rfl⟩

def SeqBoxS {α : Type} (F : Fence) (n : Nat) (P : Program) (gf : Nat) (lb : Array Value) (encs : α → Array Value) (Kp : World → World → Prop) (S Sp : List α → Prop) (Sx : List α → α → Prop) (bx : Nat) (w : World) : Prop :=
  ∀ (l : Nat) (J Jx : List α → World → Prop) (W : World), Below w.heap.size w W → (∀ s A v, J s A → J s (A.setCell ⟨bx, 0, none⟩ v)) →
    (∀ pre x W1, J pre W1 → Sx pre x → YieldAt F (n - 1) P l (encs x) W1 fun e W' => (e = .returned (.bool true) ∧ J (pre ++ [x]) W' ∧ Kp W1 W') ∨ (e = .returned (.bool false) ∧ Jx (pre ++ [x]) W')) →
    J [] W → CallsIn F n P gf (#[.func (.yield l) #[] #[]] ++ lb) W fun e W' => (∃ v, e = .returned v) ∧ ((∃ xs, S xs ∧ J xs W') ∨ (∃ pre, Sp pre ∧ Jx pre W'))

theorem wpIn_range_boxS {F : Fence} {n : Nat} {P : Program} {α : Type} {g : Operand} {ps : Array Tmp} {assign body : Code} {Q : Exit → Act → World → Prop} {a : Act} {w : World}
    (hro : F.round = none) (h1 : 1 ≤ n) {gf : Nat} {lb : Array Value} (hg : a.eval g = .func (.func gf) #[] lb) (hFg : F.fn gf) (eg : ∀ args w, (callFunc gf args).run P w = .ok (.enter gf args) w)
    {encs : α → Array Value} {Kp : World → World → Prop} {S Sp : List α → Prop} {Sx : List α → α → Prop} {bx : Nat} (hbx : bx < w.heap.size) (hseq : SeqBoxS F (n - 1) P gf lb encs Kp S Sp Sx bx w)
    (hKt : ∀ {A B C : World}, Kp A B → Kp B C → Kp A C) (hKb : ∀ (W : World) (l : Nat) (o o' : Obj), w.heap.size ≤ l → W.heap[l]? = some o → Kp W (W.putObj l o')) (hps : ∀ x, (encs x).size = ps.size)
    (I : List α → World → Prop) (Ix : Code → List α → World → Prop) (hI : OwnFrom w.heap.size I) (hIx : ∀ c, OwnFrom w.heap.size (Ix c)) (hIs : ∀ s A v, I s A → I s (A.setCell ⟨bx, 0, none⟩ v)) (h0 : I [] w) (a₁ : α → Act)
    (hassign : ∀ (l : Nat) (x : α) (W : World) (K : Act → World → Prop), K (a₁ x) W →
      assign.wpIn (F.inRound l) (n - 1 - 1) P (Exit.then K (fun _ _ _ => False)) { tmps := (ps.zip (encs x)).foldl (fun t (p, v) => t.setIfInBounds p v) a.tmps, defers := [] } W)
    (hbody : ∀ (l : Nat) (pre : List α) (x : α) (W : World), I pre W → Sx pre x → body.wpIn (F.inRound l) (n - 1 - 1) P (ownPostG w.heap.size Kp I Ix (pre ++ [x]) W) (a₁ x) W)
    (hdone : ∀ (D : Nat) (xs : List α) (W : World), w.heap.size ≤ D → S xs → I xs W → W.heap[D]? = some (.deferred (some [])) → Q .normal { a with defers := { target := .collected D, args := #[] } :: a.defers } W)
    (hstop : ∀ (D : Nat) (c : Code) (pre : List α) (W : World), w.heap.size ≤ D → Sp pre → Ix c pre W → W.heap[D]? = some (.deferred (some [])) → c.wpIn F n P Q { a with defers := { target := .collected D, args := #[] } :: a.defers } W) :
    (Code.rangeFunc g ps assign body).wpIn F n P Q a w := by
  refine wpIn_rangeFunc ?_
  intro fn hfn
  rw [hro]
  obtain ⟨rec, hrec⟩ : ∃ rec : LoopState → Option Code → Loop, rec = fun st pe => { state := st, pending := pe, fn, tmps := a.tmps, params := ps, assign, body, defers := w.heap.size } := ⟨_, rfl⟩
  obtain ⟨W1, hW1⟩ : ∃ W1, (w.alloc (.deferred (some []))).alloc (.loop (rec .ready none)) = W1 := ⟨_, rfl⟩
  have hL1 : W1.heap[w.heap.size + 1]? = some (.loop (rec .ready none)) := by
    rw [← hW1]; have := World.alloc_heap_new (w.alloc (.deferred (some []))) (.loop (rec .ready none)); rwa [World.size_alloc] at this
  have hK1 : W1.heap[w.heap.size]? = some (.deferred (some [])) := by
    rw [← hW1]; exact (Below.heap_alloc _ _ _ (by simp)).trans (World.alloc_heap_new w _)
  have hI1 : I [] W1 := by rw [← hW1]; exact hI.alloc _ (hI.alloc _ h0)
  have hb1 : Below w.heap.size w W1 := by
    rw [← hW1]; exact (((Below.refl _ w).alloc (Nat.le_refl _) _).alloc (by simp) _)
  refine ⟨w.heap.size + 1, [{ target := .collected w.heap.size, args := #[] }], W1, { target := .fn (.func gf) lb, args := #[.func (.yield (w.heap.size + 1)) #[] #[]] }, W1, gf,
    #[.func (.yield (w.heap.size + 1)) #[] #[]] ++ lb, W1, ?_, ?_, ?_, ?_, fun _ => h1, ?_⟩
  · rw [← hW1, hrec]; exact run_enterLoop_outer _ _ _ _ _
  · simp only [resolve, hg]
    simp [go_sem]
  · intro f' hf'; simp [Target.leads] at hf'; subst hf'; exact hFg
  · simp [invoke, go_sem, eg]
  · refine (hseq (w.heap.size + 1)
      (fun pre W => I pre W ∧ W.heap[w.heap.size + 1]? = some (.loop (rec .ready none)) ∧ W.heap[w.heap.size]? = some (.deferred (some [])))
      (fun pre W => ∃ c, Ix c pre W ∧ W.heap[w.heap.size + 1]? = some (.loop (rec .done (some c))) ∧ W.heap[w.heap.size]? = some (.deferred (some [])))
      W1 hb1
      (fun s A v hs => ⟨hIs s A v hs.1, set_block A bx _ v _ (by omega) hs.2.1, set_block A bx _ v _ (by omega) hs.2.2⟩)
      ?_ ⟨hI1, hL1, hK1⟩).mono ?_
    · rintro pre x W ⟨hi, hl, hk⟩ hlen
      have hlt : w.heap.size + 1 < W.heap.size := (Array.getElem?_eq_some_iff.1 hl).1
      have hy := run_yield (P := P) (args := encs x) hl (by rw [hrec]; exact hps x)
      rw [hrec] at hy
      refine ⟨fn, _, assign, body, hy, roundIn_of_wpIn hfn (hassign _ x W _ ⟨_, run_beginRound hl (by rw [hrec]), ?_⟩)⟩
      have hl2 : (W.putObj (w.heap.size + 1) (.loop { rec .ready none with state := .busy })).heap[w.heap.size + 1]? = some (.loop { rec .ready none with state := .busy }) := World.putObj_heap_same hlt
      have hk2 : (W.putObj (w.heap.size + 1) (.loop { rec .ready none with state := .busy })).heap[w.heap.size]? = some (.deferred (some [])) := (World.putObj_heap_other (by omega)).trans hk
      have hw2 : Kp W (W.putObj (w.heap.size + 1) (.loop { rec .ready none with state := .busy })) := hKb _ _ _ _ (by omega) hl
      refine wpIn_mono (hbody _ pre x _ (hI.putObj _ hi (by omega) hl rfl) hlen) ?_
      have fin : ∀ (jump : Option Code) (W3 : World), KeepsFrom w.heap.size (W.putObj (w.heap.size + 1) (.loop { rec .ready none with state := .busy })) W3 →
          (Instr.endRound (w.heap.size + 1) jump).run P W3 = .ok (.bool jump.isNone) (W3.putObj (w.heap.size + 1) (.loop (rec (if jump.isNone then .ready else .done) jump))) ∧
          W3.heap[w.heap.size + 1]? = some (.loop { rec .ready none with state := .busy }) ∧
          (W3.putObj (w.heap.size + 1) (.loop (rec (if jump.isNone then .ready else .done) jump))).heap[w.heap.size + 1]? = some (.loop (rec (if jump.isNone then .ready else .done) jump)) ∧
          (W3.putObj (w.heap.size + 1) (.loop (rec (if jump.isNone then .ready else .done) jump))).heap[w.heap.size]? = some (.deferred (some [])) := fun jump W3 hk3 => by
        have hl3 := hk3.same _ _ (by omega) hl2 rfl
        have := run_endRound (P := P) jump hl3
        rw [hrec] at this ⊢
        exact ⟨this, by rw [hrec] at hl3; exact hl3, World.putObj_heap_same (Array.getElem?_eq_some_iff.1 hl3).1, (World.putObj_heap_other (by omega)).trans (hk3.same _ _ (Nat.le_refl _) hk2 rfl)⟩
      rintro e a3 W3 hp
      cases e with
      | normal =>
        obtain ⟨hk3, hkp3, hi3⟩ := hp
        obtain ⟨hr, hl3, hl4, hk4⟩ := fin none W3 hk3
        exact ⟨_, _, hr, .inl ⟨rfl, ⟨hI.putObj _ hi3 (by omega) hl3 rfl, hl4, hk4⟩, hKt (hKt hw2 hkp3) (hKb _ _ _ _ (by omega) hl3)⟩⟩
      | ret =>
        obtain ⟨hk3, hi3⟩ := hp
        obtain ⟨hr, hl3, hl4, hk4⟩ := fin (some .ret) W3 hk3
        exact ⟨_, _, hr, .inr ⟨rfl, .ret, (hIx _).putObj _ hi3 (by omega) hl3 rfl, hl4, hk4⟩⟩
      | exit id =>
        obtain ⟨hk3, hi3⟩ := hp
        obtain ⟨hr, hl3, hl4, hk4⟩ := fin (some (.exit id)) W3 hk3
        exact ⟨_, _, hr, .inr ⟨rfl, .exit id, (hIx _).putObj _ hi3 (by omega) hl3 rfl, hl4, hk4⟩⟩
      | goto t =>
        obtain ⟨hk3, hi3⟩ := hp
        obtain ⟨hr, hl3, hl4, hk4⟩ := fin (some (.goto t)) W3 hk3
        exact ⟨_, _, hr, .inr ⟨rfl, .goto t, (hIx _).putObj _ hi3 (by omega) hl3 rfl, hl4, hk4⟩⟩
      | panic ch => exact hp.elim
      | outgrown => exact hp.elim
    · rintro e W2 ⟨⟨v, rfl⟩, (⟨xs, hS, hi, hl, hk⟩ | ⟨pre, hSp, c, hi, hl, hk⟩)⟩
      · exact ⟨none, _, by have := run_endLoop (P := P) hl (by rw [hrec]; simp); rw [hrec] at this; exact this, hdone _ xs _ (Nat.le_refl _) hS (hI.putObj _ hi (by omega) hl rfl) ((World.putObj_heap_other (by omega)).trans hk)⟩
      · exact ⟨some c, _, by have := run_endLoop (P := P) hl (by rw [hrec]; simp); rw [hrec] at this; exact this, hstop _ c pre _ (Nat.le_refl _) hSp ((hIx c).putObj _ hi (by omega) hl rfl) ((World.putObj_heap_other (by omega)).trans hk)⟩

set_option maxRecDepth 100000 in
set_option maxHeartbeats 1000000 in
theorem split1S_in (n : Nat) (hn : 1 ≤ n) (l b1 b2 b3 : Nat) (h12 : b1 ≠ b2) (h13 : b1 ≠ b3) (s : ByteArray) (hs : s.size ≤ 1000000000000000) (J Jx : List ByteArray → World → Prop)
    (hJs : ∀ p A v, J p A → J p (A.setCell ⟨b1, 0, none⟩ v))
    (hY : ∀ pre x W1, J pre W1 → (∃ r, cutS 47 s = pre ++ x :: r) → YieldAt Fence.wide (n - 1) Tryd.prog l #[.string x] W1 fun e W' => (e = .returned (.bool true) ∧ J (pre ++ [x]) W' ∧ KeepBoxes b1 b2 b3 W1 W') ∨ (e = .returned (.bool false) ∧ Jx (pre ++ [x]) W'))
    (W : World) (hb1 : Boxed W b1 9 (.string s)) (hb2 : Boxed W b2 9 (.string ⟨#[47]⟩)) (hb3 : Boxed W b3 3 (.int .i64 0)) (h0 : J [] W) :
    CallsIn Fence.wide n Tryd.prog 77 #[.func (.yield l) #[] #[], .pointer (some ⟨b2, 0, none⟩), .pointer (some ⟨b1, 0, none⟩), .pointer (some ⟨b3, 0, none⟩)] W fun e W' => (∃ v, e = .returned v) ∧ ((∃ xs, xs = cutS 47 s ∧ J xs W') ∨ (∃ pre, (∃ r, cutS 47 s = pre ++ r) ∧ Jx pre W')) := by
  have hc2 := hb2.cell
  refine callsIn_of_wp Tryd.func77 rfl trivial ?_ rfl
  simp only [Tryd.ntmps77, List.size_toArray, List.length_cons, List.length_nil, Nat.reduceAdd, Nat.reduceSub, Array.replicate_succ, Array.replicate_zero, List.push_toArray, List.append_toArray, List.nil_append, List.cons_append]
  gi_wp2
  gi_loopw [7] (fun _ wr => ∃ (pre : List ByteArray) (r : ByteArray), Boxed wr b1 9 (.string r) ∧ Boxed wr b2 9 (.string ⟨#[47]⟩) ∧ Boxed wr b3 3 (.int .i64 0) ∧ cutS 47 s = pre ++ cutS 47 r ∧ r.size ≤ s.size ∧ J pre wr)
    (fun _ wr => boxLen wr b1)
  case atStart => exact ⟨[], s, hb1, hb2, hb3, rfl, Nat.le_refl _, h0⟩
  case round =>
    obtain ⟨pre, r, g1, g2, g3, hcut, hsz, hJ⟩ := hrel
    have c1 := g1.cell
    have c2 := g2.cell
    have c3 := g3.cell
    have f1 := g1.frozen
    rcases idxS_cases r with ⟨hi, hno⟩ | ⟨p, t, hr, hp, hi⟩
    · have HC : Hid (cutS 47 s = pre ++ [r]) := by rw [hcut, cutS_miss hno]; rfl
      obtain ⟨fn, tmps, assign, body, hy, hR⟩ := hY pre r wr hJ ⟨[], HC.out⟩
      clear hcut hno
      gi_wp2_with (refine ⟨trivial, ?_⟩; gi_at_call 76; refine (callsIn_wide.2 (index_any _ _)).mono ?_; rintro e w' ⟨rfl, rfl⟩)
      refine hR.mono ?_
      rintro e W3 (⟨rfl, hJ3, hk3⟩ | ⟨rfl, hJ3⟩)
      · gi_wp2
        go_end0
        exact ⟨⟨_, rfl⟩, .inl ⟨_, HC.out.symm, hJ3⟩⟩
      · gi_wp2
        go_end0
        exact ⟨⟨_, rfl⟩, .inr ⟨_, ⟨[], by rw [List.append_nil]; exact HC.out⟩, hJ3⟩⟩
    · have hrs : r.size = p.length + (t.length + 1) := by rw [← size_list r, hr]; simp
      have HC : Hid (cutS 47 s = (pre ++ [r.extract 0 p.length]) ++ cutS 47 (r.extract (p.length + 1) r.size)) := by
        unfold Hid
        rw [hcut, cutS_hit hr hp, List.append_assoc]; rfl
      have hsz2 : (r.extract (p.length + 1) r.size).size ≤ s.size := by simp; omega
      have hsz3 : (r.extract (p.length + 1) r.size).size < r.size := by simp; omega
      have hpl : p.length < r.size := by omega
      have HR : Hid (r.size = p.length + (t.length + 1)) := hrs
      obtain ⟨fn, tmps, assign, body, hy, hR⟩ := hY pre (r.extract 0 p.length) wr hJ ⟨_, by rw [HC.out, List.append_assoc]; rfl⟩
      clear hcut hr hp hrs
      gi_wp2_with (refine ⟨trivial, ?_⟩; gi_at_call 76; refine (callsIn_wide.2 (index_any _ _)).mono ?_; rintro e w' ⟨rfl, rfl⟩)
      refine hR.mono ?_
      rintro e W3 (⟨rfl, hJ3, hk3⟩ | ⟨rfl, hJ3⟩)
      · have k1 : Boxed W3 b1 9 (.string r) := (hk3 b1 (.inl rfl)).trans g1
        have k2 : Boxed W3 b2 9 (.string ⟨#[47]⟩) := (hk3 b2 (.inr (.inl rfl))).trans g2
        have k3 : Boxed W3 b3 3 (.int .i64 0) := (hk3 b3 (.inr (.inr rfl))).trans g3
        have d1 := k1.cell
        have d2 := k2.cell
        have d3 := k3.cell
        have e1 := k1.frozen
        gi_wp2
        go_roundw
        case rel => exact ⟨_, _, k1.set _, k2.kept (grownBy_setCell' W3 b1 _) (fun e => h12 (Option.some.inj e).symm), k3.kept (grownBy_setCell' W3 b1 _) (fun e => h13 (Option.some.inj e).symm), HC.out, hsz2, hJs _ _ _ hJ3⟩
        case measure => rw [boxLen_of (k1.set _), boxLen_of g1]; exact hsz3
      · gi_wp2
        refine bodyPost_ret (results_none rfl _ _ _) rfl ?_
        exact ⟨⟨_, rfl⟩, .inr ⟨_, ⟨_, HC.out⟩, hJ3⟩⟩
theorem split_seqS (n : Nat) (hn : 1 ≤ n) (b1 b2 b3 : Nat) (h12 : b1 ≠ b2) (h13 : b1 ≠ b3) (s : ByteArray) (hs : s.size ≤ 1000000000000000) (w : World) (hb1 : Boxed w b1 9 (.string s)) (hb2 : Boxed w b2 9 (.string ⟨#[47]⟩)) (hb3 : Boxed w b3 3 (.int .i64 0)) :
    SeqBoxS Fence.wide n Tryd.prog 77 #[.pointer (some ⟨b2, 0, none⟩), .pointer (some ⟨b1, 0, none⟩), .pointer (some ⟨b3, 0, none⟩)] (fun x : ByteArray => #[Value.string x]) (KeepBoxes b1 b2 b3) (fun xs => xs = cutS 47 s) (fun pre => ∃ r, cutS 47 s = pre ++ r) (fun pre x => ∃ r, cutS 47 s = pre ++ x :: r) b1 w :=
  fun l J Jx W hW hJs hY h0 => split1S_in n hn l b1 b2 b3 h12 h13 s hs J Jx hJs hY W ((hW.block b1 hb1.lt).trans hb1) ((hW.block b2 hb2.lt).trans hb2) ((hW.block b3 hb3.lt).trans hb3) h0
end
end Go.Proofs.YtiekhoehkgmbjaaDoor
/- glob: writesDots with way. -/
namespace Go.Proofs.YtiekhoehkgmbjaaDoor
open Go.RowKit Go.Shelf
attribute [local go_sem] Oper.semAt_some

theorem ownFrom_boxed {α : Type} {B b t : Nat} {v : α → Value} : OwnFrom B (fun (x : α) W => Boxed W b t (v x)) := by
  intro s A W row h hg hr
  refine h.kept hg ?_
  intro e
  obtain ⟨_, o, ho, hc⟩ := hr b e.symm
  have h2 : A.heap[b]? = _ := h
  rw [h2] at ho
  cases ho
  cases hc
theorem ownFrom_cells {α : Type} {B b t : Nat} {cs : Array Value} : OwnFrom B (fun (_ : α) W => W.heap[b]? = some (.cells cs t (0, 0))) := by
  intro s A W row h hg hr
  have hlt := (Array.getElem?_eq_some_iff.1 h).1
  refine (hg.block b hlt ?_).trans h
  intro e
  obtain ⟨_, o, ho, hc⟩ := hr b e.symm
  rw [h] at ho
  cases ho
  cases hc
theorem keepsFrom_below {B : Nat} {W W' : World} (h : Below W.heap.size W W') : KeepsFrom B W W' := ⟨h.size, fun k _ _ hk _ => (h.block k (Array.getElem?_eq_some_iff.1 hk).1).trans hk⟩
theorem Boxed.put {W : World} {b t D : Nat} {v : Value} {o : Obj} (h : Boxed W b t v) (hne : b ≠ D) : Boxed (W.putObj D o) b t v := (World.putObj_heap_other hne).trans h
/-- Each name that begins with a dot is written so. -/
def OkN (L : List ByteArray) (pre : List ByteArray) : Prop := ∀ (k : Nat) (x : ByteArray), pre[k]? = some x → beginsB (L.getD k ⟨#[]⟩).data.toList x.data.toList = true
theorem OkN.snoc {L pre : List ByteArray} {x : ByteArray} : OkN L (pre ++ [x]) ↔ OkN L pre ∧ beginsB (L.getD pre.length ⟨#[]⟩).data.toList x.data.toList = true := by
  constructor
  · intro h
    exact ⟨fun k y hy => h k y (by rw [List.getElem?_append_left (List.getElem?_eq_some_iff.1 hy).1]; exact hy), h pre.length x (by simp)⟩
  · rintro ⟨h1, h2⟩ k y hy
    rcases Nat.lt_or_ge k pre.length with hk | hk
    · rw [List.getElem?_append_left hk] at hy
      exact h1 k y hy
    · have hl := (List.getElem?_eq_some_iff.1 hy).1
      rw [List.length_append, List.length_singleton] at hl
      have : k = pre.length := by omega
      subst this
      rw [List.getElem?_append_right (Nat.le_refl _), Nat.sub_self] at hy
      cases hy
      exact h2
theorem OkN.pre {L pre r : List ByteArray} (h : OkN L (pre ++ r)) : OkN L pre := fun k y hy => h k y (by rw [List.getElem?_append_left (List.getElem?_eq_some_iff.1 hy).1]; exact hy)
def namesOf (t : ByteArray) : List ByteArray := Lib.splitB ⟨#[47]⟩ 0 (Lib.countB t ⟨#[47]⟩) t
set_option maxRecDepth 100000 in
set_option maxHeartbeats 2000000 in
theorem dots_in (n : Nat) (hn : 4 ≤ n) (ps : List PcD) (v : Value) (B : Nat) (s : ByteArray) (w : World) (h : PsRow B w v ps) (hlen : ps.length ≤ 200) (hM : MaxW w) (h1w : 1 < w.heap.size) (hs : s.size ≤ 1000000000000000)
    (L : List ByteArray) (m : Nat) (hL : namesOf ⟨(ps.map writtenD).toArray⟩ = L) (hm : Lib.countB ⟨(ps.map writtenD).toArray⟩ ⟨#[47]⟩ + 1 = m) (hLm : L.length = m) (hcnt : (cutS 47 s).length ≤ m) :
    CallsIn Fence.wide n Tryd.prog 28 #[v, .string s, .bool true] w fun e w' => (∃ r, e = .returned (.bool r) ∧ (r = true ↔ OkN L (cutS 47 s))) ∧ Below w.heap.size w w' := by
  have h1 : 1 ≤ n := by omega
  obtain ⟨W1, hW1⟩ : ∃ W1, w.alloc (.cells #[.bool false] 4) = W1 := ⟨_, rfl⟩
  have b1 : Below w.heap.size w W1 := by rw [← hW1]; exact (Below.refl _ _).alloc (Nat.le_refl _) _
  have z1 : W1.heap.size = w.heap.size + 1 := by rw [← hW1, World.size_alloc]
  have hn1 : Boxed W1 w.heap.size 4 (.bool false) := by rw [← hW1]; exact Boxed.new w 4 _
  have hou := outline_any ps v B W1 (own_below h b1) hlen
  obtain ⟨va, vn, vc, rfl⟩ : ∃ a n c, v = .slice a n c := by
    rcases h.form with ⟨e, _⟩ | ⟨g, c, e, _⟩ <;> exact ⟨_, _, _, e⟩
  have HN1 := hide hn1
  have HB1 := hide b1
  have HZ1 := hide z1
  have HM := hide hM
  have hts : (⟨(ps.map writtenD).toArray⟩ : ByteArray).size < 4294967281 := by
    show (ps.map writtenD).toArray.size < _
    rw [List.size_toArray, List.length_map]; omega
  clear h b1 z1 hn1 hM
  refine callsIn_of_wp_marks Tryd.func28 rfl trivial ?_ rfl
  simp only [Tryd.ntmps28, List.size_toArray, List.length_cons, List.length_nil, Nat.reduceAdd, Nat.reduceSub, Array.replicate_succ, Array.replicate_zero, List.push_toArray, List.append_toArray, List.nil_append, List.cons_append]
  gi_wp2_with fail
  refine ⟨trivial, (callsIn_wide.2 hou).mono ?_⟩
  rintro e w2 ⟨rfl, b2⟩
  clear hou
  have hn2 : Boxed w2 w.heap.size 4 (.bool false) := (b2.block _ (by rw [HZ1.out]; omega)).trans HN1.out
  have b02 : Below w.heap.size w w2 := HB1.out.trans (b2.mono HB1.out.size)
  obtain ⟨m0, hm0⟩ := HM.out.below h1w b02
  have hsp := Tryd.strings_Split ⟨(ps.map writtenD).toArray⟩ ⟨#[47]⟩ m0 w2 hts hm0 (by decide)
  unfold namesOf at hL
  rw [hm, hL] at hsp
  have z2 : w.heap.size + 1 ≤ w2.heap.size := by have := b2.size; rw [HZ1.out] at this; exact this
  have HN2 := hide hn2
  have HB02 := hide b02
  clear hn2 b02 b2 hm0 hL hts
  gi_wp2_with fail
  refine ⟨trivial, (callsIn_wide.2 hsp).mono ?_⟩
  rintro e w3 ⟨rfl, hw3⟩
  clear hsp
  have hz3 : w3.heap.size = w2.heap.size + 1 := by rw [hw3, World.size_alloc]
  have hnm : w3.heap[w2.heap.size]? = some (.cells (L.map Value.string).toArray 9 (0, 0)) := by rw [hw3]; exact World.alloc_heap_new w2 _
  have hn3 : Boxed w3 w.heap.size 4 (.bool false) := by rw [hw3]; exact HN2.out.alloc _
  have hb3 : Below w.heap.size w w3 := by rw [hw3]; exact HB02.out.alloc HB02.out.size _
  have HNM := hide hnm
  have HN3 := hide hn3
  have HB3 := hide hb3
  have HZ3 := hide hz3
  clear hw3 hnm hn3 hb3 hz3
  gi_wp2_with (refine ⟨trivial, ?_⟩; gi_at_call 49; refine (SplitSeq_in (n - 1) (by omega) _ _ _).mono ?_; rintro e w' ⟨rfl, rfl⟩)
  obtain ⟨Z, hZ⟩ : ∃ Z, w3.heap.size = Z := ⟨_, rfl⟩
  rw [hZ] at HZ3 ⊢
  obtain ⟨w4, hw4⟩ : ∃ w4, ((((w3.alloc (.cells #[.slice (some ⟨w2.heap.size, 0, none⟩) m m] 100)).alloc (.cells #[.int .i64 0] 3)).alloc (.cells #[.string s] 9)).alloc (.cells #[.string ⟨#[47]⟩] 9)).alloc (.cells #[.int .i64 0] 3) = w4 := ⟨_, rfl⟩
  rw [hw4]
  have bN : Boxed w4 Z 100 (.slice (some ⟨w2.heap.size, 0, none⟩) m m) := by
    rw [← hw4, ← hZ]
    exact ((((Boxed.new w3 100 _).alloc _).alloc _).alloc _).alloc _
  have bK : Boxed w4 (Z + 1) 3 (.int .i64 0) := by
    rw [← hw4]
    have := Boxed.new (w3.alloc (.cells #[.slice (some ⟨w2.heap.size, 0, none⟩) m m] 100)) 3 (.int .i64 0)
    rw [World.size_alloc, hZ] at this
    exact ((this.alloc _).alloc _).alloc _
  have bS : Boxed w4 (Z + 1 + 1) 9 (.string s) := by
    rw [← hw4]
    have := Boxed.new ((w3.alloc (.cells #[.slice (some ⟨w2.heap.size, 0, none⟩) m m] 100)).alloc (.cells #[.int .i64 0] 3)) 9 (.string s)
    rw [World.size_alloc, World.size_alloc, hZ] at this
    exact (this.alloc _).alloc _
  have bP : Boxed w4 (Z + 1 + 1 + 1) 9 (.string ⟨#[47]⟩) := by
    rw [← hw4]
    have := Boxed.new (((w3.alloc (.cells #[.slice (some ⟨w2.heap.size, 0, none⟩) m m] 100)).alloc (.cells #[.int .i64 0] 3)).alloc (.cells #[.string s] 9)) 9 (.string ⟨#[47]⟩)
    rw [World.size_alloc, World.size_alloc, World.size_alloc, hZ] at this
    exact this.alloc _
  have bQ : Boxed w4 (Z + 1 + 1 + 2) 3 (.int .i64 0) := by
    rw [← hw4]
    have := Boxed.new ((((w3.alloc (.cells #[.slice (some ⟨w2.heap.size, 0, none⟩) m m] 100)).alloc (.cells #[.int .i64 0] 3)).alloc (.cells #[.string s] 9)).alloc (.cells #[.string ⟨#[47]⟩] 9)) 3 (.int .i64 0)
    rw [World.size_alloc, World.size_alloc, World.size_alloc, World.size_alloc, hZ] at this
    exact this
  have b34 : Below w3.heap.size w3 w4 := by
    rw [← hw4]; exact (((((Below.refl _ w3).alloc (Nat.le_refl _) _).alloc (by simp) _).alloc (by simp; omega) _).alloc (by simp; omega) _).alloc (by simp; omega) _
  have hsz4 : w4.heap.size = Z + 5 := by rw [← hw4]; simp [hZ]
  have hB4 : Below w.heap.size w w4 := HB3.out.trans (b34.mono HB3.out.size)
  have bO : Boxed w4 w.heap.size 4 (.bool false) := (b34.block _ HN3.out.lt).trans HN3.out
  have bM : w4.heap[w2.heap.size]? = some (.cells (L.map Value.string).toArray 9 (0, 0)) := (b34.block _ (Array.getElem?_eq_some_iff.1 HNM.out).1).trans HNM.out
  have hzw : w.heap.size + 1 < Z := by have := HZ3.out; omega
  have hz2Z : w2.heap.size < Z := by have := HZ3.out; omega
  clear hw4 b34 HNM HN3 HB3 HB02 HN2 HN1 HB1 HZ1 HM
  refine wpIn_range_boxS rfl h1 (gf := 77) (lb := #[.pointer (some ⟨Z + 1 + 1 + 1, 0, none⟩), .pointer (some ⟨Z + 1 + 1, 0, none⟩), .pointer (some ⟨Z + 1 + 1 + 2, 0, none⟩)]) rfl trivial (enters_of Tryd.func77 (by kernel_rfl) rfl)
    (bx := Z + 1 + 1) (by omega) (split_seqS (n - 1) (by omega) (Z + 1 + 1) (Z + 1 + 1 + 1) (Z + 1 + 1 + 2) (by omega) (by omega) s (by omega) w4 bS bP bQ)
    (fun {A B C} h k j hj => (k j hj).trans (h j hj)) (fun W l o o' hl _ j hj => World.putObj_heap_other (by omega)) (fun _ => rfl)
    (fun (pre : List ByteArray) W => Boxed W w.heap.size 4 (.bool false) ∧ (Boxed W Z 100 (.slice (some ⟨w2.heap.size, 0, none⟩) m m) ∧ (Boxed W (Z + 1) 3 (.int .i64 (pre.length : Int)) ∧ (W.heap[w2.heap.size]? = some (.cells (L.map Value.string).toArray 9 (0, 0)) ∧ (Below w.heap.size w W ∧ (Z + 5 ≤ W.heap.size ∧ OkN L pre))))))
    (fun c (pre : List ByteArray) W => Boxed W w.heap.size 4 (.bool false) ∧ (Below w.heap.size w W ∧ (c = .ret ∧ ¬ OkN L pre)))
    (OwnFrom.and ownFrom_boxed (OwnFrom.and ownFrom_boxed (OwnFrom.and ownFrom_boxed (OwnFrom.and ownFrom_cells (OwnFrom.and (ownFrom_below (Nat.le_refl _) (by omega)) (OwnFrom.and (fun _ _ _ _ hs hg _ => Nat.le_trans hs hg.size) (fun _ _ _ _ hs _ _ => hs)))))))
    (fun c => OwnFrom.and ownFrom_boxed (OwnFrom.and (ownFrom_below (Nat.le_refl _) (by omega)) (fun _ _ _ _ hs _ _ => hs)))
    (fun p A v hs => by
      obtain ⟨hu, hx, hk, hc, hB, hz, ho⟩ := hs
      have hg := grownBy_setCell' A (Z + 1 + 1) v
      exact ⟨hu.kept hg (fun e => by have := Option.some.inj e; omega), hx.kept hg (fun e => by have := Option.some.inj e; omega), hk.kept hg (fun e => by have := Option.some.inj e; omega), set_block A _ _ v _ (by omega) hc, hB.setCell (p := ⟨Z + 1 + 1, 0, none⟩) (by show w.heap.size ≤ Z + 1 + 1; omega) _, Nat.le_trans hz hg.size, ho⟩)
    ⟨bO, bN, bK, bM, hB4, by omega, fun k x hx => by simp at hx⟩
    (fun x => { tmps := #[.slice va vn vc, .string s, .bool true, undef, undef, undef, .pointer (some ⟨w.heap.size, 0, none⟩), .string ⟨(ps.map writtenD).toArray⟩, .pointer (some ⟨Z, 0, none⟩), .pointer (some ⟨Z + 1, 0, none⟩), .string x, .slice va vn vc, .string ⟨(ps.map writtenD).toArray⟩, .bool true, .bool false, undef, undef, undef, .string ⟨(ps.map writtenD).toArray⟩, .slice (some ⟨w2.heap.size, 0, none⟩) m m, .string s, .func (.func 77) #[] #[.pointer (some ⟨Z + 1 + 1 + 1, 0, none⟩), .pointer (some ⟨Z + 1 + 1, 0, none⟩), .pointer (some ⟨Z + 1 + 1 + 2, 0, none⟩)], .string x, undef, undef, undef, undef, undef, undef, undef, undef, undef], defers := [] }) ?assign ?body ?done ?stop
  case assign =>
    intro l x W K hK
    gi_wp2
    exact hK
  case body =>
    rintro l pre x W ⟨hv, hx, hk, hnm, hB, hWs, hok⟩ ⟨r, hcut⟩
    have hpl : pre.length < m := by rw [hcut, List.length_append, List.length_cons] at hcnt; omega
    have hpI : (pre.length : Int) < (m : Int) := by omega
    have hpb : pre.length ≤ 1000000000000001 := by
      have h1 : (cutS 47 s).length ≤ s.size + 1 := by
        unfold cutS
        rw [List.length_map]
        have := split_length 47 s.data.toList
        rw [len_list] at this
        exact this
      rw [hcut, List.length_append, List.length_cons] at h1
      omega
    obtain ⟨y, hy⟩ : ∃ y, L.getD pre.length ⟨#[]⟩ = y := ⟨_, rfl⟩
    have hcy : W.cell? ⟨w2.heap.size, pre.length, none⟩ = some (.string y) := by
      rw [cell_of_row _ _ _ _ _ _ hnm, ← hy]
      have hl : pre.length < L.length := by omega
      simp [hl]
    have HBE := hide (begins_any y x W)
    have c1 := hx.cell
    have c2 := hk.cell
    have c3 := hv.cell
    have f2 := hk.frozen
    have f3 := hv.frozen
    have HSN : Hid (OkN L (pre ++ [x]) ↔ OkN L pre ∧ beginsB y.data.toList x.data.toList = true) := by
      have := OkN.snoc (L := L) (pre := pre) (x := x)
      rw [hy] at this
      exact this
    have h11 : 1 ≤ n - 1 - 1 := by omega
    have HALL := hide (And.intro hv (And.intro hx (And.intro hk (And.intro hnm (And.intro hB hok)))))
    clear hv hx hk hnm hB hok hcut hy hcnt hLm
    cases hbe : beginsB y.data.toList x.data.toList
    · rw [hbe] at HBE
      have HNO : Hid (¬ OkN L (pre ++ [x])) := fun h => by have := (HSN.out.1 h).2; rw [hbe] at this; cases this
      gi_wp2_with (refine ⟨trivial, ?_⟩; gi_at_call 47; refine (CallsIn.inRound l (callsIn_wide.2 (unhide HBE))).mono ?_; rintro e W2 ⟨rfl, hw⟩; rw [hw]; clear hw)
      obtain ⟨hv, hx, hk, hnm, hB, hok⟩ := HALL.out
      exact ⟨KeepsFrom.of_grownBy (grownBy_setCell' W w.heap.size _) (fun j e => by cases e; omega), hv.set _, hB.setCell (p := ⟨w.heap.size, 0, none⟩) (Nat.le_refl _) _, rfl, HNO.out⟩
    · rw [hbe] at HBE
      have HYES : Hid (OkN L (pre ++ [x])) := HSN.out.2 ⟨HALL.out.2.2.2.2.2, hbe⟩
      gi_wp2_with (refine ⟨trivial, ?_⟩; gi_at_call 47; refine (CallsIn.inRound l (callsIn_wide.2 (unhide HBE))).mono ?_; rintro e W2 ⟨rfl, hw⟩; rw [hw]; clear hw)
      obtain ⟨hv, hx, hk, hnm, hB, hok⟩ := HALL.out
      have hg := grownBy_setCell' W (Z + 1) (.int .i64 ((pre.length : Int) + 1))
      have hk2 : Boxed (W.setCell ⟨Z + 1, 0, none⟩ (.int .i64 ((pre.length : Int) + 1))) (Z + 1) 3 (.int .i64 ((pre ++ [x]).length : Int)) := by
        have := hk.set (.int .i64 ((pre.length : Int) + 1))
        rw [List.length_append, List.length_singleton]
        exact this
      exact ⟨KeepsFrom.of_grownBy hg (fun j e => by cases e; omega), fun j hj => hg.block j (by omega) (fun e => by have := Option.some.inj e; omega), hv.kept hg (fun e => by have := Option.some.inj e; omega), hx.kept hg (fun e => by have := Option.some.inj e; omega), hk2, set_block W _ _ _ _ (by omega) hnm, hB.setCell (p := ⟨Z + 1, 0, none⟩) (by show w.heap.size ≤ Z + 1; omega) _, Nat.le_trans hWs hg.size, HYES.out⟩
  case done =>
    rintro D ys W hD rfl ⟨hv, _, _, _, hB, _, hok⟩ hK
    have hc := hv.cell
    have hfz := hv.frozen
    have HOK := hide hok
    clear hok
    gi_wp2
    have hKD := set_block W w.heap.size D (.bool true) _ (by omega) hK
    have hc2 : (World.putObj (W.setCell ⟨w.heap.size, 0, none⟩ (.bool true)) D (.deferred none)).cell? ⟨w.heap.size, 0, none⟩ = some (.bool true) := (Boxed.put (hv.set (.bool true)) (by omega)).cell
    refine ⟨by simp, .inl ⟨_, _, rfl, run_takeDeferred hKD, ?_⟩⟩
    refine ⟨.bool true, ?_, ?_⟩
    · simp [results, Tryd.results28, go_sem, hc2]
    · exact ⟨⟨true, rfl, by simp [HOK.out]⟩, (hB.setCell (p := ⟨w.heap.size, 0, none⟩) (Nat.le_refl _) _).trans (belowK_b (w := w) (Nat.le_refl _) _ D _ _ (by omega) hKD rfl rfl)⟩
  case stop =>
    rintro D c pre W hD ⟨r, hcut⟩ ⟨hv, hB, rfl, hno⟩ hK
    have HNO : Hid (¬ OkN L (cutS 47 s)) := fun h => hno (by rw [hcut] at h; exact h.pre)
    have hc2 : (World.putObj W D (.deferred none)).cell? ⟨w.heap.size, 0, none⟩ = some (.bool false) := (Boxed.put hv (by omega)).cell
    clear hcut hno
    gi_wp2
    refine ⟨by simp, .inl ⟨_, _, rfl, run_takeDeferred hK, ?_⟩⟩
    refine ⟨.bool false, ?_, ?_⟩
    · simp [results, Tryd.results28, go_sem, hc2]
    · exact ⟨⟨false, rfl, by simp [HNO.out]⟩, hB.trans (belowK_b (w := w) (Nat.le_refl _) _ D _ _ (by omega) hK rfl rfl)⟩
end Go.Proofs.YtiekhoehkgmbjaaDoor
/- glob: the names, counted; Match with dot. -/
namespace Go.Proofs.YtiekhoehkgmbjaaDoor
open Go.RowKit Go.Shelf

theorem idx_one (t : ByteArray) : Lib.indexB t ⟨#[47]⟩ = idxS t := Lib.one t ⟨#[47]⟩ rfl
theorem names_cut : ∀ (k : Nat) (t : ByteArray), t.size ≤ k → Lib.splitB ⟨#[47]⟩ 0 (Lib.countB t ⟨#[47]⟩) t = cutS 47 t ∧ (cutS 47 t).length = Lib.countB t ⟨#[47]⟩ + 1 ∧ (cutS 47 t).length = t.data.toList.count 47 + 1 := by
  intro k
  induction k with
  | zero =>
    intro t ht
    rcases idxS_cases t with ⟨hi, hno⟩ | ⟨p, r, hr, hp, hi⟩
    · rw [cutS_miss hno, Lib.countB_miss _ _ ((idx_one t).trans hi), Lib.splitB_miss _ _ _ _ ((idx_one t).trans hi)]
      exact ⟨rfl, rfl, by rw [List.count_eq_zero_of_not_mem hno]; rfl⟩
    · have := congrArg List.length hr
      rw [len_list] at this
      simp at this
      omega
  | succ k ih =>
    intro t ht
    rcases idxS_cases t with ⟨hi, hno⟩ | ⟨p, r, hr, hp, hi⟩
    · rw [cutS_miss hno, Lib.countB_miss _ _ ((idx_one t).trans hi), Lib.splitB_miss _ _ _ _ ((idx_one t).trans hi)]
      exact ⟨rfl, rfl, by rw [List.count_eq_zero_of_not_mem hno]; rfl⟩
    · have hl := congrArg List.length hr
      rw [len_list] at hl
      simp at hl
      have hs1 : (⟨#[47]⟩ : ByteArray).size = 1 := rfl
      have hsub : (t.extract (p.length + 1) t.size).size ≤ k := by simp; omega
      obtain ⟨i1, i2, i3⟩ := ih _ hsub
      have hc := Lib.countB_hit t ⟨#[47]⟩ p.length (by decide) ((idx_one t).trans hi)
      rw [hs1] at hc
      have hsp := Lib.splitB_hit ⟨#[47]⟩ 0 (Lib.countB (t.extract (p.length + 1) t.size) ⟨#[47]⟩) t p.length ((idx_one t).trans hi)
      rw [hs1] at hsp
      have e : Lib.countB t ⟨#[47]⟩ = Lib.countB (t.extract (p.length + 1) t.size) ⟨#[47]⟩ + 1 := by omega
      rw [e, hsp, i1, cutS_hit hr hp]
      refine ⟨rfl, by rw [List.length_cons, i2], ?_⟩
      rw [List.length_cons, i3, hr, List.count_append, List.count_eq_zero_of_not_mem hp, List.count_cons_self, sub_list, hr]
      have e2 : (p ++ 47 :: r).drop (p.length + 1) = r := by
        rw [List.drop_append, List.drop_of_length_le (by omega), show p.length + 1 - p.length = 1 from by omega]
        rfl
      rw [e2]
      omega
theorem dots_way (ps : List PcD) (v : Value) (B : Nat) (s : ByteArray) (w : World) (h : PsRow B w v ps) (hlen : ps.length ≤ 200) (hM : MaxW w) (h1w : 1 < w.heap.size) (hs : s.size ≤ 1000000000000000) (hin : PsIn true ps s.data.toList) :
    Calls Tryd.prog 28 #[v, .string s, .bool true] w fun e w' => (∃ r, e = .returned (.bool r) ∧ (r = true ↔ OkN (cutS 47 ⟨(ps.map writtenD).toArray⟩) (cutS 47 s))) ∧ Below w.heap.size w w' := by
  obtain ⟨a1, a2, a3⟩ := names_cut _ ⟨(ps.map writtenD).toArray⟩ (Nat.le_refl _)
  obtain ⟨_, _, b3⟩ := names_cut _ s (Nat.le_refl _)
  have hsl := slashes hin
  refine (callsIn_wide (n := 8)).1 (dots_in 8 (by omega) ps v B s w h hlen hM h1w hs (cutS 47 ⟨(ps.map writtenD).toArray⟩) _ a1 a2.symm rfl ?_)
  rw [a3, b3, hsl]
  exact Nat.le_refl _
end Go.Proofs.YtiekhoehkgmbjaaDoor
/- glob: Match with dot; the law GlobHides. -/
namespace Go.Proofs.YtiekhoehkgmbjaaDoor
open Go.RowKit Go.Shelf

/-- Each dot at a beginning is written. -/
def dotsOk (way : Bool) (ps : List PcD) (t : ByteArray) : Prop :=
  if way = true then OkN (cutS 47 ⟨(ps.map writtenD).toArray⟩) (cutS 47 t) else beginsB (ps.map writtenD) t.data.toList = true
theorem dots_any (ps : List PcD) (v : Value) (B : Nat) (s : ByteArray) (way : Bool) (w : World) (h : PsRow B w v ps) (hlen : ps.length ≤ 200) (hM : MaxW w) (h1w : 1 < w.heap.size) (hs : s.size ≤ 1000000000000000) (hin : PsIn way ps s.data.toList) :
    Calls Tryd.prog 28 #[v, .string s, .bool way] w fun e w' => (∃ r, e = .returned (.bool r) ∧ (r = true ↔ dotsOk way ps s)) ∧ Below w.heap.size w w' := by
  cases way with
  | true => exact dots_way ps v B s w h hlen hM h1w hs hin
  | false =>
    refine (dots_flat ps v B s w h hlen).mono ?_
    rintro e w' ⟨rfl, hb⟩
    exact ⟨⟨_, rfl, Iff.rfl⟩, hb⟩
set_option maxRecDepth 100000 in
set_option maxHeartbeats 4000000 in
theorem gdot_any (s t : ByteArray) (way : Bool) (w : World) (hG : GW w) (ht : t.size ≤ 1000000000000000) :
    Calls Tryd.prog 12 #[.string s, .string t, .bool way, .bool true] w fun e w' => ∃ r, e = .returned (.tuple #[.bool r, .int .i64 (wrongD s : Int)]) ∧ (wrongD s ≠ 0 → r = false) ∧ (∀ ps, wrongD s = 0 → patD s.size s.data.toList = .ok ps → (r = true ↔ InE (meanD way ps) t.data.toList ∧ dotsOk way ps t)) ∧ Below w.heap.size w w' := by
  have hrd := read_any s w hG.mx hG.big
  have HG := hide hG
  clear hG
  go_enter Tryd.func12, Tryd.ntmps12
  go_wp2_with fail
  refine hrd.mono ?_
  rintro e w2 ⟨hread, b2⟩
  rcases read_two hread with ⟨ps, v, he, hp, hl, rfl, hrow⟩ | ⟨n, pl, he, hn, rfl⟩
  · have hme := meaning_any ps way v _ w2 hrow hl
    obtain ⟨va, vn, vc, rfl⟩ : ∃ a n c, v = .slice a n c := by
      rcases hrow.form with ⟨e, _⟩ | ⟨g, c, e, _⟩ <;> exact ⟨_, _, _, e⟩
    have HE := hide he
    have HPD := hide hp
    have HB2 := hide b2
    have HROW := hide hrow
    clear hread hrow b2 he hp hrd
    go_wp2_with fail
    refine hme.mono ?_
    rintro e w3 ⟨kv, rfl, hkin, b3⟩
    have b03 : Below w.heap.size w w3 := HB2.out.trans (b3.mono HB2.out.size)
    have g3 := HG.out.below b03
    have hma := match_big 3 ⟨#[]⟩ kv (ps.map (exprD way)) t w3 (hkin.at_ (fun k hk => hk.2)) (by decide) (wt_mean way ps hl) ht g3.tab (by have := g3.big; omega)
    obtain ⟨ka, kn, kc, rfl⟩ : ∃ a n c, kv = .slice a n c := by
      obtain ⟨ka, kc, e⟩ := kin_shape hkin
      exact ⟨_, _, _, e⟩
    have HB03 := hide b03
    have HB3 := hide b3
    clear hkin b3 b03 hme g3
    go_wp2_with fail
    refine hma.mono ?_
    rintro e w4 ⟨r, rfl, hr, b4⟩
    have b04 : Below w.heap.size w w4 := HB03.out.trans (b4.mono HB03.out.size)
    have b24 : Below w2.heap.size w2 w4 := HB3.out.trans (b4.mono HB3.out.size)
    have hEE := HE.out
    have hr' : r = true ↔ InE (meanD way ps) t.data.toList := hr
    have HPS : Hid (∀ qs, patD s.size s.data.toList = .ok qs → qs = ps) := fun qs hq => by rw [HPD.out] at hq; cases hq; rfl
    clear hr hma HB03 HB2 HE
    cases r with
    | true =>
      have hin : InE (meanD way ps) t.data.toList := hr'.1 rfl
      have g4 := HG.out.below b04
      have hdo := dots_any ps (.slice va vn vc) _ t way w4 (own_below HROW.out b24) hl g4.mx g4.big ht (psIn_iff.1 hin)
      have HIN := hide hin
      have HB04 := hide b04
      clear hin hr' b04 b24 b4 g4
      go_wp2_with fail
      refine hdo.mono ?_
      rintro e w5 ⟨⟨r2, rfl, hr2⟩, b5⟩
      have HB5 : Hid (Below w.heap.size w w5) := HB04.out.trans (b5.mono HB04.out.size)
      have HR2 := hide hr2
      clear hr2 b5 hdo
      go_wp2
      exact bodyPost_ret (v := .tuple #[.bool r2, .int .i64 (wrongD s : Int)]) (by rw [hEE]; simp [results, Tryd.results12, go_sem]) rfl ⟨r2, rfl, fun h => absurd hEE h, fun qs _ hq => by rw [HPS.out qs hq]; exact ⟨fun h => ⟨HIN.out, HR2.out.1 h⟩, fun h => HR2.out.2 h.2⟩, HB5.out⟩
    | false =>
      have HNO : Hid (¬ InE (meanD way ps) t.data.toList) := fun h => by have := hr'.2 h; cases this
      have HB04 := hide b04
      clear hr' b04 b24 b4
      go_wp2
      exact bodyPost_ret (v := .tuple #[.bool false, .int .i64 (wrongD s : Int)]) (by rw [hEE]; simp [results, Tryd.results12, go_sem]) rfl ⟨false, rfl, fun _ => rfl, fun qs _ hq => by rw [HPS.out qs hq]; exact ⟨fun h => (by cases h), fun h => absurd h.1 HNO.out⟩, HB04.out⟩
  · have hnI : ¬ ((n : Int) = 0) := by omega
    have HE := hide he
    have HB2 := hide b2
    clear hread b2 hrd he HG
    go_wp2
    have hEE := HE.out
    exact bodyPost_ret (v := .tuple #[.bool false, .int .i64 (wrongD s : Int)]) (by rw [hEE]; simp [results, Tryd.results12, go_sem]) rfl ⟨false, rfl, fun _ => rfl, fun _ h0 => absurd (hEE.symm.trans h0) hn, HB2.out⟩
set_option maxRecDepth 100000 in
set_option maxHeartbeats 4000000 in
theorem gflat_any (s t : ByteArray) (way : Bool) (w : World) (hG : GW w) (ht : t.size ≤ 1000000000000000) :
    Calls Tryd.prog 12 #[.string s, .string t, .bool way, .bool false] w fun e w' => ∃ r, e = .returned (.tuple #[.bool r, .int .i64 (wrongD s : Int)]) ∧ (wrongD s ≠ 0 → r = false) ∧ (∀ ps, wrongD s = 0 → patD s.size s.data.toList = .ok ps → (r = true ↔ InE (meanD way ps) t.data.toList)) ∧ Below w.heap.size w w' := by
  have hrd := read_any s w hG.mx hG.big
  have HG := hide hG
  clear hG
  go_enter Tryd.func12, Tryd.ntmps12
  go_wp2_with fail
  refine hrd.mono ?_
  rintro e w2 ⟨hread, b2⟩
  rcases read_two hread with ⟨ps, v, he, hp, hl, rfl, hrow⟩ | ⟨n, pl, he, hn, rfl⟩
  · have hme := meaning_any ps way v _ w2 hrow hl
    obtain ⟨va, vn, vc, rfl⟩ : ∃ a n c, v = .slice a n c := by
      rcases hrow.form with ⟨e, _⟩ | ⟨g, c, e, _⟩ <;> exact ⟨_, _, _, e⟩
    have HE := hide he
    have HPD := hide hp
    have HB2 := hide b2
    clear hread hrow b2 he hp hrd
    go_wp2_with fail
    refine hme.mono ?_
    rintro e w3 ⟨kv, rfl, hkin, b3⟩
    have b03 : Below w.heap.size w w3 := HB2.out.trans (b3.mono HB2.out.size)
    have g3 := HG.out.below b03
    have hma := match_big 3 ⟨#[]⟩ kv (ps.map (exprD way)) t w3 (hkin.at_ (fun k hk => hk.2)) (by decide) (wt_mean way ps hl) ht g3.tab (by have := g3.big; omega)
    obtain ⟨ka, kn, kc, rfl⟩ : ∃ a n c, kv = .slice a n c := by
      obtain ⟨ka, kc, e⟩ := kin_shape hkin
      exact ⟨_, _, _, e⟩
    have HB03 := hide b03
    clear hkin b3 b03 hme g3
    go_wp2_with fail
    refine hma.mono ?_
    rintro e w4 ⟨r, rfl, hr, b4⟩
    have HR : Hid (∀ qs, wrongD s = 0 → patD s.size s.data.toList = .ok qs → (r = true ↔ InE (meanD way qs) t.data.toList)) := fun qs _ hq => by
      rw [HPD.out] at hq
      cases hq
      exact hr
    have HB4 : Hid (Below w.heap.size w w4) := HB03.out.trans (b4.mono HB03.out.size)
    have hEE := HE.out
    clear hr b4 hma HB03 HB2 HPD HE HG
    cases r with
    | true =>
      go_wp2
      exact bodyPost_ret (v := .tuple #[.bool true, .int .i64 (wrongD s : Int)]) (by rw [hEE]; simp [results, Tryd.results12, go_sem]) rfl ⟨true, rfl, fun h => absurd hEE h, fun qs h0 hq => by simpa using HR.out qs h0 hq, HB4.out⟩
    | false =>
      go_wp2
      exact bodyPost_ret (v := .tuple #[.bool false, .int .i64 (wrongD s : Int)]) (by rw [hEE]; simp [results, Tryd.results12, go_sem]) rfl ⟨false, rfl, fun _ => rfl, HR.out, HB4.out⟩
  · have hnI : ¬ ((n : Int) = 0) := by omega
    have HE := hide he
    have HB2 := hide b2
    clear hread b2 hrd he HG
    go_wp2
    have hEE := HE.out
    exact bodyPost_ret (v := .tuple #[.bool false, .int .i64 (wrongD s : Int)]) (by rw [hEE]; simp [results, Tryd.results12, go_sem]) rfl ⟨false, rfl, fun _ => rfl, fun _ h0 => absurd (hEE.symm.trans h0) hn, HB2.out⟩
theorem wrong_ok {s : ByteArray} (h : wrongD s = 0) : ∃ ps, patD s.size s.data.toList = .ok ps := by
  unfold wrongD at h
  split at h
  · cases h
  · split at h
    · rename_i ps hp; exact ⟨ps, hp⟩
    · cases h
    · cases h
set_option maxRecDepth 100000 in
theorem num2_any (n : Int) (w : World) : Calls Tryd.prog 14 #[.int .i64 n] w fun e w' => e = .returned (.int .i64 n) ∧ w' = w := by
  go_enter Tryd.func14, Tryd.ntmps14
  go_wp2
  go_ret
  exact ⟨rfl, rfl⟩
set_option maxRecDepth 100000 in
set_option maxHeartbeats 8000000 in
theorem hides_any (p s : ByteArray) (w : World) (hG : GW w) (hs : s.size ≤ 1000000000000000) :
    Calls Tryd.prog 8 #[.string p, .string s] w fun e w' => e = .returned (.bool true) ∧ Below w.heap.size w w' := by
  have HG := hide hG
  have ha := gflat_any p s false w hG hs
  obtain ⟨E, hE⟩ : ∃ E, wrongD p = E := ⟨_, rfl⟩
  have HEW := hide hE
  rw [hE] at ha
  clear hG
  go_enter Tryd.func8, Tryd.ntmps8
  go_wp2_with fail
  refine ha.mono ?_
  rintro e w1 ⟨a, rfl, a0, a1, b1⟩
  have hb := gflat_any p s true w1 (HG.out.below b1) hs
  rw [hE] at hb
  have HB1 := hide b1
  have HA := hide (And.intro a0 a1)
  clear ha a0 a1 b1
  go_wp2_with fail
  refine hb.mono ?_
  rintro e w2 ⟨b, rfl, b0, b1', b2⟩
  have b02 : Below w.heap.size w w2 := HB1.out.trans (b2.mono HB1.out.size)
  have hc := gdot_any p s false w2 (HG.out.below b02) hs
  rw [hE] at hc
  have HB2 := hide b02
  have HBB := hide (And.intro b0 b1')
  clear hb b0 b1' b2 b02
  go_wp2_with fail
  refine hc.mono ?_
  rintro e w3 ⟨c, rfl, c0, c1, b3⟩
  have b03 : Below w.heap.size w w3 := HB2.out.trans (b3.mono HB2.out.size)
  have hd := gdot_any p s true w3 (HG.out.below b03) hs
  rw [hE] at hd
  have HB3 := hide b03
  have HC := hide (And.intro c0 c1)
  clear hc c0 c1 b3 b03
  go_wp2_with fail
  refine hd.mono ?_
  rintro e w4 ⟨d, rfl, d0, d1, b4⟩
  have b04 : Below w.heap.size w w4 := HB3.out.trans (b4.mono HB3.out.size)
  have hpc := pieces_any p false w4
  rw [hE] at hpc
  have HB4 := hide b04
  have HD := hide (And.intro d0 d1)
  clear hd d0 d1 b4 b04
  go_wp2_with fail
  refine hpc.mono ?_
  rintro e w5 ⟨⟨pa, pn, pc, pl2, rfl⟩, b5⟩
  have b05 : Below w.heap.size w w5 := HB4.out.trans (b5.mono HB4.out.size)
  have HB5 := hide b05
  have hnu := num2_any (E : Int) w5
  clear hpc b5 b05
  have hlaw : (b = true → a = true) ∧ (c = true → a = true) ∧ (d = true → b = true) := by
    by_cases hE0 : E = 0
    · obtain ⟨ps, hps⟩ := wrong_ok (HEW.out.trans hE0)
      have qa := HA.out.2 ps hE0 hps
      have qb := HBB.out.2 ps hE0 hps
      have qc := HC.out.2 ps hE0 hps
      have qd := HD.out.2 ps hE0 hps
      exact ⟨fun h => qa.2 (psIn_iff.2 (psIn_way (psIn_iff.1 (qb.1 h)))), fun h => qa.2 (qc.1 h).1, fun h => qb.2 (qd.1 h).1⟩
    · have qb := HBB.out.1 hE0
      have qc := HC.out.1 hE0
      have qd := HD.out.1 hE0
      exact ⟨fun h => (by rw [qb] at h; cases h), fun h => (by rw [qc] at h; cases h), fun h => (by rw [qd] at h; cases h)⟩
  have HLAW := hide hlaw
  clear hlaw HA HBB HC HD HB1 HB2 HB3 HB4 HEW hE HG
  go_wp2_with fail
  refine hnu.mono ?_
  rintro e w6 ⟨rfl, hw⟩
  rw [hw]
  clear hw w6 hnu
  obtain ⟨l1, l2, l3⟩ := HLAW.out
  cases a <;> cases b <;> cases c <;> cases d <;> simp only [Bool.false_eq_true, imp_false, not_true_eq_false, not_false_eq_true, implies_true] at l1 l2 l3
  all_goals go_wp2
  all_goals exact bodyPost_ret (v := .bool true) (by simp [results, Tryd.results8, go_sem]) rfl ⟨rfl, HB5.out⟩
end Go.Proofs.YtiekhoehkgmbjaaDoor
