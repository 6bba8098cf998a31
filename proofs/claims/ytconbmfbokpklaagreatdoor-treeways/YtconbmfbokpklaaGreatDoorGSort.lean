/- Merged: Cmp, Sort, SortR, ShelfB, SortN, SortK, SortW, SortS. -/
import Derived.Test.YtconbmfbokpklaaGreatDoorGMaps
import Derived.Test.YtconbmfbokpklaaGreatDoorGNodes
import Derived.Test.YtconbmfbokpklaaGreatDoorGPlain
import Derived.Shelf.Small.Bits
import Derived.Test.YtconbmfbokpklaaGreatDoorShelf
import Derived.Test.YtconbmfbokpklaaGreatDoorGAdd
/- How two Kids compare. -/
namespace Go.Proofs.YtconbmfbokpklaaGreatDoor
open Go.RowKit Go.Maps

set_option maxRecDepth 100000 in
set_option maxHeartbeats 1000000 in
theorem cmp47 (x c g cap n i j : Nat) (ni nj : ByteArray) (w : World) (hx : w.cell? ⟨x, 0, none⟩ = some (.pointer (some ⟨c, 0, none⟩))) (b0 : w.cell? ⟨c, 0, none⟩ = some (.slice (some ⟨g, 0, none⟩) n cap)) (hi : i < n) (hj : j < n) (ci : w.cell? ⟨g, i * 7 + 1, none⟩ = some (.string ni)) (cj : w.cell? ⟨g, j * 7 + 1, none⟩ = some (.string nj)) :
    Calls Tryz.prog 47 #[.int .i64 (i : Int), .int .i64 (j : Int), .pointer (some ⟨x, 0, none⟩)] w fun e w' => e = .returned (.int .i64 (Lib.compareBytes ni.data.toList nj.data.toList)) ∧ ∃ q, w' = w.drewN q := by
  have hi2 : (i : Int) < (n : Int) := by omega
  have hj2 : (j : Int) < (n : Int) := by omega
  go_enter Tryz.func47, Tryz.ntmps47
  go_wp2
  go_quiet ((go_at_call 48; exact Calls.quiet_of_same (Tryz.strings_Compare _ _ _)))
  go_wp2
  go_ret
  exact ⟨rfl, nq, rfl⟩
end Go.Proofs.YtconbmfbokpklaaGreatDoor
/- One node's Kids, sorted. -/
namespace Go.Proofs.YtconbmfbokpklaaGreatDoor
open Go.RowKit Go.Maps Go.Sort

theorem sort_grown {α : Type} [Inhabited α] (enc : α → Value) (w : World) (blk off m : Nat) (dk : Array α) (os : Array Obj) : w.grownBy (sortWorld enc w blk off m dk os) (some blk) := by
  refine ⟨rfl, rfl, rfl, ?_, fun k hk hne => ?_⟩
  · show w.heap.size ≤ ((w.heap.modify blk _) ++ os).size
    simp
  · show ((w.heap.modify blk _) ++ os)[k]? = _
    rw [Array.getElem?_append_left (by simpa using hk), Array.getElem?_modify, if_neg (fun e => hne (by rw [e]))]
theorem sort_block {α : Type} [Inhabited α] (enc : α → Value) (w : World) (blk off m : Nat) (dk : Array α) (os : Array Obj) {cur : Array Value} {t : TypeId} {f : Nat × Nat} (h : w.heap[blk]? = some (.cells cur t f)) : (sortWorld enc w blk off m dk os).heap[blk]? = some (.cells (putCells enc off dk cur) t f) := by
  have hlt := (Array.getElem?_eq_some_iff.1 h).1
  have hk := (Array.getElem?_eq_some_iff.1 h).2
  show ((w.heap.modify blk _) ++ os)[blk]? = _
  rw [Array.getElem?_append_left (by simpa using hlt), Array.getElem?_eq_getElem (by rw [Array.size_modify]; exact hlt), Array.getElem_modify_self, hk]
  rfl
/-- The row behind the sort. -/
theorem sort_own {B n cap blk m k : Nat} {w : World} (os : Array Obj) {xs : List Value} (h : w.ownsRow B 3 1 (.slice (some ⟨blk, 0, none⟩) n cap) n xs) [Inhabited (Fin k)] (d : Array (Fin k)) (hd : d.size = n) :
    (sortWorld (fun i : Fin k => Value.int .i64 (i.val : Int)) w blk 0 m d os).ownsRow B 3 1 (.slice (some ⟨blk, 0, none⟩) n cap) n (ints (d.toList.map (·.val))) := by
  rcases h.2 with ⟨e, _⟩ | ⟨g', cap', cur, e, hb, hg, hn, hm, hs, ht⟩
  · cases e
  · cases e
    refine ⟨by simp [ints, hd], .inr ⟨blk, cap, putCells (fun i : Fin k => Value.int .i64 (i.val : Int)) 0 d cur, rfl, hb, sort_block _ _ _ _ _ _ _ hg, hn, hm, by unfold putCells; simpa using hs, ?_⟩⟩
    apply List.ext_getElem?
    intro j
    by_cases hj : j < n
    · rw [List.getElem?_take_of_lt (by omega)]
      unfold putCells ints
      rw [Array.getElem?_toList, Array.getElem?_mapIdx]
      have hjc : j < cur.size := by omega
      rw [Array.getElem?_eq_getElem hjc]
      simp only [Option.map_some]
      rw [if_pos (by omega), List.getElem?_map, List.getElem?_map, Array.getElem?_toList, Array.getElem?_eq_getElem (by omega)]
      simp [getElem!_pos, hd, hj]
    · rw [List.getElem?_eq_none (by simp; omega), List.getElem?_eq_none (by simp [ints, hd]; omega)]
end Go.Proofs.YtconbmfbokpklaaGreatDoor
/- slices.SortFunc on one node's Kids. -/
namespace Go.Proofs.YtconbmfbokpklaaGreatDoor
open Go.RowKit Go.Maps Go.Sort

theorem Tryz.enter47 (args : Array Value) (w : World) : (callFunc 47 args).run Tryz.prog w = .ok (.enter 47 args) w := by kernel_rfl
def cfN (L : List NodeD) {k : Nat} (x y : Fin k) : Int := Lib.compareBytes (nmL L x.val) (nmL L y.val)
theorem cfN_lt (L : List NodeD) {k : Nat} (x y : Fin k) : ltOf (cfN L) x y = Op.bytesLess (nmL L x.val) (nmL L y.val) := by
  unfold ltOf cfN
  rw [Bool.eq_iff_iff, decide_eq_true_eq]
  exact cmp_less _ _
theorem swoN (L : List NodeD) {k : Nat} : SWO (ltOf (cfN L (k := k))) := by
  refine ⟨fun x => ?_, fun x y z => ?_, fun x y z => ?_⟩
  · rw [cfN_lt]; exact less_irr _
  · rw [cfN_lt, cfN_lt, cfN_lt]; exact less_trans _ _ _
  · rw [cfN_lt, cfN_lt, cfN_lt]
    intro h1 h2
    cases e : Op.bytesLess (nmL L x.val) (nmL L z.val) with
    | false => rfl
    | true =>
      exfalso
      by_cases hxy : nmL L x.val = nmL L y.val
      · rw [hxy] at e; rw [e] at h2; cases h2
      · have h3 := less_total _ _ hxy h1
        have h4 := less_trans _ _ _ h3 e
        rw [h4] at h2; cases h2
def SortPost (B blk m cap : Nat) (L : List NodeD) (ks : List Nat) (w : World) (e : Ending) (w' : World) : Prop :=
  e = .returned (.tuple #[]) ∧ ∃ ks', ks'.Perm ks ∧ ks'.Pairwise (fun a b => Op.bytesLess (nmL L b) (nmL L a) = false) ∧ w'.ownsRow B 3 1 (.slice (some ⟨blk, 0, none⟩) m cap) ks'.length (ints ks') ∧ w.grownBy w' (some blk)
theorem sort_row {B c g cap x blk kcap : Nat} (L : List NodeD) (ks : List Nat) (w : World) (hx : w.cell? ⟨x, 0, none⟩ = some (.pointer (some ⟨c, 0, none⟩))) (b0 : w.cell? ⟨c, 0, none⟩ = some (.slice (some ⟨g, 0, none⟩) L.length cap)) (hnm : ∀ (i : Nat) (m : NodeD), L[i]? = some m → w.cell? ⟨g, i * 7 + 1, none⟩ = some (.string m.name))
    (hrow : w.ownsRow B 3 1 (.slice (some ⟨blk, 0, none⟩) ks.length kcap) ks.length (ints ks)) (hk : ∀ j ∈ ks, j < L.length) (h1 : x ≠ blk) (h2 : c ≠ blk) (h3 : g ≠ blk) (hxl : x < w.heap.size) (hcl : c < w.heap.size) (hgl : g < w.heap.size) (hL : 1 ≤ L.length) (hkl : ks.length ≤ 100000) :
    Calls Tryz.prog 46 #[.slice (some ⟨blk, 0, none⟩) ks.length kcap, .func (.func 47) #[] #[.pointer (some ⟨x, 0, none⟩)]] w (SortPost B blk ks.length kcap L ks w) := by
  haveI : Inhabited (Fin L.length) := ⟨⟨0, hL⟩⟩
  obtain ⟨d, hd⟩ : ∃ d : Array (Fin L.length), d.toList.map (·.val) = ks := by
    refine ⟨(ks.attach.map fun j => (⟨j.1, hk j.1 j.2⟩ : Fin L.length)).toArray, ?_⟩
    simp
  have hds : d.size = ks.length := by rw [← hd]; simp
  have hblk := (hrow.lt blk rfl).2
  have hcmp : CmpReads Tryz.prog 47 #[.pointer (some ⟨x, 0, none⟩)] (fun i : Fin L.length => Value.int .i64 (i.val : Int)) (cfN L) blk 0 d.size w := by
    intro m os dk hs p q
    have hg := sort_grown (fun i : Fin L.length => Value.int .i64 (i.val : Int)) w blk 0 m dk os
    have far : ∀ (y j : Nat) (z : Value), y < w.heap.size → y ≠ blk → w.cell? ⟨y, j, none⟩ = some z → (sortWorld (fun i : Fin L.length => Value.int .i64 (i.val : Int)) w blk 0 m dk os).cell? ⟨y, j, none⟩ = some z := fun y j z hy hne hz => hg.cell (a := ⟨y, j, none⟩) hz (fun e => hne (Option.some.inj e))
    obtain ⟨mp, hmp⟩ : ∃ mp, L[p.val]? = some mp := ⟨_, List.getElem?_eq_getElem p.2⟩
    obtain ⟨mq, hmq⟩ : ∃ mq, L[q.val]? = some mq := ⟨_, List.getElem?_eq_getElem q.2⟩
    have := cmp47 x c g cap L.length p.val q.val mp.name mq.name _ (far x 0 _ hxl h1 hx) (far c 0 _ hcl h2 b0) p.2 q.2 (far g _ _ hgl h3 (hnm p.val mp hmp)) (far g _ _ hgl h3 (hnm q.val mq hmq))
    have e1 : cfN L p q = Lib.compareBytes mp.name.data.toList mq.name.data.toList := by
      unfold cfN
      rw [nmL_of hmp, nmL_of hmq, ByteArray.toList_eq, ByteArray.toList_eq]
    rw [e1]
    exact this
  have hH : Holds (fun i : Fin L.length => Value.int .i64 (i.val : Int)) w blk 0 d := by
    intro j hj
    have hj2 : j < ks.length := by omega
    refine ⟨?_, ?_⟩
    · have e1 : (ints ks)[j]? = some (.int .i64 ((d[j]!).val : Int)) := by
        unfold ints
        rw [← hd, List.getElem?_map, List.getElem?_map, Array.getElem?_toList, Array.getElem?_eq_getElem hj]
        simp [getElem!_pos, hj]
      rw [Nat.zero_add]
      exact own_cells hrow e1
    · exact own_frozen hrow _
  have hC := Tryz.slices_SortFunc (fun i : Fin L.length => Value.int .i64 (i.val : Int)) (fun _ => rfl) (cfN L) (swoN L) 47 #[.pointer (some ⟨x, 0, none⟩)] blk 0 kcap d w Tryz.enter47 hcmp.lays hH hblk (by omega)
  rw [hds] at hC
  refine hC.mono ?_
  rintro e w' ⟨rfl, d', m, os, hp, hsrt, rfl⟩
  have hd's : d'.size = ks.length := by rw [hp.1, hds]
  have hperm : d'.toList.Perm d.toList := by
    have := hp.2.2
    rwa [← hds, show d'.extract 0 d.size = d' from by rw [← hp.1]; simp, show d.extract 0 d.size = d from by simp] at this
  refine ⟨rfl, d'.toList.map (·.val), by rw [← hd]; exact hperm.map _, ?_, ?_, sort_grown _ _ _ _ _ _ _⟩
  · rw [List.pairwise_map, List.pairwise_iff_getElem]
    intro i j hi hj hij
    have hj2 : j < d'.size := by simpa using hj
    have h := hsrt i j (Nat.zero_le _) hij (by omega)
    rw [cfN_lt, getElem!_pos d' i (by omega), getElem!_pos d' j hj2] at h
    simpa using h
  · rw [show (d'.toList.map (·.val)).length = ks.length from by simp [hd's]]
    exact sort_own os hrow d' hd's
end Go.Proofs.YtconbmfbokpklaaGreatDoor
/- What the library's functions answer, at this program: the shelf's contracts, laid. -/
namespace Go.Proofs
open Go.Shelf
def Tryz.lays125_ren : Go.Shelf.Ren := ⟨fun | 125 => 75 | 128 => 108 | 129 => 109 | n => n, fun | 46 => 124 | 3 => 3 | 51 => 166 | 53 => 168 | 4 => 4 | 5 => 5 | 9 => 9 | n => n, fun | n => n⟩
theorem Tryz.lays125 : Go.Proofs.Lays.n125 Tryz.prog Tryz.lays125_ren := {
  mixed := by kernel_rfl
  f125 := Tryz.func75.trans (congrArg some (by kernel_rfl))
  f128 := Tryz.func108.trans (congrArg some (by kernel_rfl))
  f129 := Tryz.func109.trans (congrArg some (by kernel_rfl))
  t3 := Tryz.underlying3
  a3 := Tryz.isAgg3
  z3 := Tryz.sizeOf3
  v3 := Tryz.zeroValue3
  t4 := Tryz.underlying4
  a4 := Tryz.isAgg4
  z4 := Tryz.sizeOf4
  v4 := Tryz.zeroValue4
  t5 := Tryz.underlying5
  a5 := Tryz.isAgg5
  z5 := Tryz.sizeOf5
  v5 := Tryz.zeroValue5
  t9 := Tryz.underlying9
  a9 := Tryz.isAgg9
  z9 := Tryz.sizeOf9
  v9 := Tryz.zeroValue9
  t46 := Tryz.underlying124
  a46 := Tryz.isAgg124
  z46 := Tryz.sizeOf124
  v46 := Tryz.zeroValue124
  t51 := Tryz.underlying166
  a51 := Tryz.isAgg166
  z51 := Tryz.sizeOf166
  v51 := Tryz.zeroValue166
  t53 := Tryz.underlying168
  a53 := Tryz.isAgg168
  z53 := Tryz.sizeOf168
  v53 := Tryz.zeroValue168 }
theorem Tryz.bits_Len (x : Int) (w : World) (h0 : 0 ≤ x) (h1 : x ≤ 18446744073709551615) :
    Calls Tryz.prog 75 #[.int .u64 x] w fun e w' => e = .returned (.int .i64 (Lib.bitLen x.toNat)) ∧ w' = w := Any.bits_Len Tryz.lays125 x w h0 h1
end Go.Proofs
/- slices.SortFunc on no Kids. -/
namespace Go.Proofs.YtconbmfbokpklaaGreatDoor
open Go.RowKit Go.Maps

set_option maxRecDepth 100000 in
set_option maxHeartbeats 1000000 in
theorem ins_nil (f : Nat) (cb : Array Value) (w : World) : Calls Tryz.prog 100 #[.slice none 0 0, .int .i64 0, .int .i64 0, .func (.func f) #[] cb] w fun e w' => e = .returned (.tuple #[]) ∧ w' = w := by
  go_enter Tryz.func100, Tryz.ntmps100
  go_wp2
  go_loop [8] (fun i => i = .int .i64 1) (fun _ => 0)
  case atStart => rfl
  case round =>
    subst hrel
    go_wp2
    first | refine bodyPost_ret (results_none rfl _ _ _) rfl ?_ | refine bodyPost_end (results_none rfl _ _ _) rfl ?_
    exact ⟨rfl, rfl⟩
set_option maxRecDepth 100000 in
set_option maxHeartbeats 1000000 in
theorem pdq_nil (f : Nat) (cb : Array Value) (n : Int) (w : World) : Calls Tryz.prog 74 #[.slice none 0 0, .int .i64 0, .int .i64 0, .int .i64 n, .func (.func f) #[] cb] w fun e w' => e = .returned (.tuple #[]) ∧ w' = w := by
  have HI := hide (ins_nil f cb w)
  go_enter Tryz.func74, Tryz.ntmps74
  go_wp2
  go_loop [1, 2] (fun x y => x = .int .i64 0 ∧ y = .int .i64 0) (fun _ _ => 0)
  case atStart => exact ⟨rfl, rfl⟩
  case round =>
    obtain ⟨rfl, rfl⟩ := hrel
    go_wp2_with (go_at_call 100; refine (unhide HI).mono ?_; rintro e w' ⟨rfl, rfl⟩)
    first | refine bodyPost_ret (results_none rfl _ _ _) rfl ?_ | refine bodyPost_end (results_none rfl _ _ _) rfl ?_
    exact ⟨rfl, rfl⟩
set_option maxRecDepth 100000 in
set_option maxHeartbeats 1000000 in
theorem sort_nil (f : Nat) (cb : Array Value) (w : World) : Calls Tryz.prog 46 #[.slice none 0 0, .func (.func f) #[] cb] w fun e w' => e = .returned (.tuple #[]) ∧ w' = w := by
  have HL := hide (Tryz.bits_Len 0 w (by omega) (by omega))
  have HP := hide (pdq_nil f cb (Lib.bitLen (0 : Int).toNat) w)
  go_enter Tryz.func46, Tryz.ntmps46
  go_wp2_with (first | (go_at_call 75; refine (unhide HL).mono ?_; rintro e w' ⟨rfl, rfl⟩) | (go_at_call 74; refine (unhide HP).mono ?_; rintro e w' ⟨rfl, rfl⟩))
  first | refine bodyPost_ret (results_none rfl _ _ _) rfl ?_ | refine bodyPost_end (results_none rfl _ _ _) rfl ?_
  exact ⟨rfl, rfl⟩
end Go.Proofs.YtconbmfbokpklaaGreatDoor
/- builder.sortKids. -/
namespace Go.Proofs.YtconbmfbokpklaaGreatDoor
open Go.RowKit Go.Maps

/-- The nodes whose Kids have been sorted, the first i of them. -/
def SortedTo (l l' : List (NodeD × Value)) (i : Nat) : Prop :=
  l'.length = l.length ∧ ∀ (j : Nat) (p : NodeD × Value), l[j]? = some p → ∃ ks, l'[j]? = some (withKids p.1 ks, p.2) ∧ ks.Perm p.1.kids ∧ (j < i → ks.Pairwise (fun a b => Op.bytesLess (nmL (l.map (·.1)) b) (nmL (l.map (·.1)) a) = false)) ∧ (i ≤ j → ks = p.1.kids)
theorem sorted_start (l : List (NodeD × Value)) : SortedTo l l 0 := ⟨rfl, fun _ p hp => ⟨p.1.kids, hp, List.Perm.refl _, fun h => absurd h (Nat.not_lt_zero _), fun _ => rfl⟩⟩
theorem sorted_cells {l l' : List (NodeD × Value)} {i : Nat} (h : SortedTo l l' i) : cellsL l' = cellsL l := by
  have : l'.map cells7 = l.map cells7 := by
    apply List.ext_getElem?
    intro j
    rw [List.getElem?_map, List.getElem?_map]
    cases e : l[j]? with
    | none =>
      have : l'[j]? = none := by rw [List.getElem?_eq_none_iff] at e ⊢; rw [h.1]; exact e
      rw [this]
    | some p =>
      obtain ⟨ks, hk, _⟩ := h.2 j p e
      rw [hk]; rfl
  unfold cellsL
  rw [List.flatMap_def, List.flatMap_def, this]
/-- One more. -/
theorem sorted_next {l l' : List (NodeD × Value)} {i : Nat} {p : NodeD × Value} {ks ks' : List Nat} (h : SortedTo l l' i) (hp : l[i]? = some p) (hk : l'[i]? = some (withKids p.1 ks, p.2)) (hperm : ks'.Perm ks) (hpw : ks'.Pairwise (fun a b => Op.bytesLess (nmL (l.map (·.1)) b) (nmL (l.map (·.1)) a) = false)) :
    SortedTo l (l'.set i (withKids p.1 ks', p.2)) (i + 1) := by
  have hlt := (List.getElem?_eq_some_iff.1 hk).1
  refine ⟨by rw [List.length_set]; exact h.1, fun j q hq => ?_⟩
  obtain ⟨ks2, h1, h2, h3, h4⟩ := h.2 j q hq
  by_cases hij : i = j
  · subst hij
    rw [hp] at hq
    cases hq
    rw [hk] at h1
    have e : ks = ks2 := by
      have := Option.some.inj h1
      have := congrArg (fun z : NodeD × Value => z.1.kids) this
      exact this
    subst e
    exact ⟨ks', List.getElem?_set_self hlt, hperm.trans h2, fun _ => hpw, fun hh => absurd hh (by omega)⟩
  · exact ⟨ks2, by rw [List.getElem?_set_ne hij]; exact h1, h2, fun hh => h3 (by omega), fun hh => h4 (by omega)⟩
theorem sorted_same {l l' : List (NodeD × Value)} {i : Nat} {p : NodeD × Value} {ks : List Nat} (h : SortedTo l l' i) (hp : l[i]? = some p) (hk : l'[i]? = some (withKids p.1 ks, p.2)) (h0 : ks = []) : SortedTo l l' (i + 1) := by
  subst h0
  have := sorted_next h hp hk (List.Perm.refl _) (by simp)
  rwa [show l'.set i (withKids p.1 [], p.2) = l' from by
    apply List.ext_getElem?
    intro j
    by_cases hij : i = j
    · subst hij; rw [List.getElem?_set_self (List.getElem?_eq_some_iff.1 hk).1, hk]
    · rw [List.getElem?_set_ne hij]] at this
theorem own_block_cells {B t size n b : Nat} {W : World} {u : Value} {xs : List Value} (h : W.ownsRow B t size u n xs) (e : u.ownBlock = some b) : ∃ cur, W.heap[b]? = some (.cells cur t (0, 0)) := by
  rcases h.2 with ⟨rfl, _⟩ | ⟨g', cap', cur, rfl, _, hg, _⟩
  · cases e
  · simp only [Value.ownBlock, Option.some.injEq] at e
    subst e
    exact ⟨cur, hg⟩
/-- What holds of the builder while its Kids are sorted. -/
structure SInv (C : Nat) (w W : World) (x c : Nat) (v : Value) (bm br : Nat) (l l' : List (NodeD × Value)) : Prop where
  bx : W.heap[x]? = some (.cells #[.pointer (some ⟨c, 0, none⟩)] 43 (0, 0))
  box : BoxB W c v bm br
  own : Owned 33 C W v l'
  below : Below C w W
theorem SInv.alloc {C x c bm br : Nat} {w W : World} {v : Value} {l l' : List (NodeD × Value)} (h : SInv C w W x c v bm br l l') (hC : C ≤ W.heap.size) (o : Obj) : SInv C w (W.alloc o) x c v bm br l l' := by
  have hb : Below W.heap.size W (W.alloc o) := (Below.refl _ _).alloc (Nat.le_refl _) o
  exact ⟨(hb.block x (Array.getElem?_eq_some_iff.1 h.bx).1).trans h.bx, (hb.block c (Array.getElem?_eq_some_iff.1 h.box).1).trans h.box, h.own.below hb, h.below.alloc hC o⟩
theorem SInv.sorted {C x c bm br blk m kcap i : Nat} {w W W' : World} {v : Value} {l l' : List (NodeD × Value)} {p : NodeD × Value} {ks ks' : List Nat} (h : SInv C w W x c v bm br l l') (hap : ApartK l') (hk : l'[i]? = some (withKids p.1 ks, p.2)) (hpv : p.2 = .slice (some ⟨blk, 0, none⟩) m kcap) (hrow : W'.ownsRow C 3 1 (.slice (some ⟨blk, 0, none⟩) m kcap) ks'.length (ints ks')) (hg : W.grownBy W' (some blk)) :
    SInv C w W' x c v bm br l (l'.set i (withKids p.1 ks', p.2)) := by
  have hkm := h.own.2 _ (List.mem_of_getElem? hk)
  have hlt := (List.getElem?_eq_some_iff.1 hk).1
  have hblk : (p.2).ownBlock = some blk := by rw [hpv]; rfl
  have hxb : x ≠ blk := by
    intro e
    obtain ⟨cur, hg2⟩ := own_block_cells hkm hblk
    rw [← e, h.bx] at hg2; cases hg2
  have hcb : c ≠ blk := fun e => own_not_boxV hkm h.box (by decide) (by rw [e]; exact hblk)
  have hC : C ≤ blk := (hkm.lt blk hblk).1
  have hrow0 : W.ownsRow C 3 1 (.slice (some ⟨blk, 0, none⟩) m kcap) ks.length (ints ks) := by rw [← hpv]; exact hkm
  refine ⟨(hg.block x (Array.getElem?_eq_some_iff.1 h.bx).1 (fun e => hxb (Option.some.inj e))).trans h.bx, (hg.block c (Array.getElem?_eq_some_iff.1 h.box).1 (fun e => hcb (Option.some.inj e))).trans h.box, ⟨?_, fun q hq => ?_⟩, h.below.grown hg (by have := (hkm.lt blk hblk).2; omega) (fun j e => by cases e; exact hC)⟩
  · have e : cellsL (l'.set i (withKids p.1 ks', p.2)) = cellsL l' := by
      have : (l'.set i (withKids p.1 ks', p.2)).map cells7 = l'.map cells7 := by
        apply List.ext_getElem?
        intro j
        rw [List.getElem?_map, List.getElem?_map]
        by_cases hij : i = j
        · subst hij; rw [List.getElem?_set_self hlt, hk]; rfl
        · rw [List.getElem?_set_ne hij]
      unfold cellsL
      rw [List.flatMap_def, List.flatMap_def, this]
    rw [List.length_set, e]
    exact own_keep h.own.1 hrow0 (by decide) hg
  · obtain ⟨j, hj⟩ := List.mem_iff_getElem?.1 hq
    by_cases hij : i = j
    · subst hij
      rw [List.getElem?_set_self hlt] at hj
      cases hj
      show W'.ownsRow C 3 1 p.2 ks'.length (ints ks')
      rw [hpv]; exact hrow
    · rw [List.getElem?_set_ne hij] at hj
      refine (h.own.2 q (List.mem_of_getElem? hj)).kept hg ?_
      rcases hap j i q _ (fun e => hij e.symm) hj hk with e | e
      · exact .inl e
      · exact .inr (fun e2 => e (e2.trans hblk.symm))
theorem apart_set {l : List (NodeD × Value)} {i : Nat} {n n' : NodeD} {kv : Value} (h : ApartK l) (hk : l[i]? = some (n, kv)) : ApartK (l.set i (n', kv)) := by
  have hlt := (List.getElem?_eq_some_iff.1 hk).1
  have key : ∀ (j : Nat) (q : NodeD × Value), (l.set i (n', kv))[j]? = some q → ∃ q', l[j]? = some q' ∧ q'.2 = q.2 := by
    intro j q hj
    by_cases hij : i = j
    · subst hij
      rw [List.getElem?_set_self hlt] at hj
      cases hj
      exact ⟨_, hk, rfl⟩
    · rw [List.getElem?_set_ne hij] at hj
      exact ⟨q, hj, rfl⟩
  intro a b p q hne hp hq
  obtain ⟨p', hp', e1⟩ := key a p hp
  obtain ⟨q', hq', e2⟩ := key b q hq
  rw [← e1, ← e2]
  exact h a b p' q' hne hp' hq'
end Go.Proofs.YtconbmfbokpklaaGreatDoor
/- builder.sortKids: the walk. -/
namespace Go.Proofs.YtconbmfbokpklaaGreatDoor
open Go.RowKit Go.Maps

def SKPost (C c : Nat) (v : Value) (bm br : Nat) (l : List (NodeD × Value)) (w : World) (e : Ending) (w' : World) : Prop :=
  e = .returned (.tuple #[]) ∧ ∃ l', SortedTo l l' l.length ∧ BoxB w' c v bm br ∧ Owned 33 C w' v l' ∧ Below C w w'
set_option maxRecDepth 100000 in
set_option maxHeartbeats 4000000 in
theorem sortKids_any {C : Nat} (c bm br g cap : Nat) (l : List (NodeD × Value)) (w : World) (hbox : BoxB w c (.slice (some ⟨g, 0, none⟩) l.length cap) bm br) (hown : Owned 33 C w (.slice (some ⟨g, 0, none⟩) l.length cap) l) (hap : ApartK l) (hC : C ≤ w.heap.size) (hl1 : 1 ≤ l.length) (hl2 : l.length ≤ 100000) (hkl : ∀ p ∈ l, p.1.kids.length ≤ 100000 ∧ ∀ j ∈ p.1.kids, j < l.length) :
    Calls Tryz.prog 21 #[.pointer (some ⟨c, 0, none⟩)] w (SKPost C c (.slice (some ⟨g, 0, none⟩) l.length cap) bm br l w) := by
  have hcl : c < w.heap.size := (Array.getElem?_eq_some_iff.1 hbox).1
  obtain ⟨b0, b1, b2, _⟩ := hbox.cells
  have HI0 : Hid (SInv C w (w.alloc (.cells #[.pointer (some ⟨c, 0, none⟩)] 43)) w.heap.size c (.slice (some ⟨g, 0, none⟩) l.length cap) bm br l l) := by
    have hb : Below w.heap.size w (w.alloc (.cells #[.pointer (some ⟨c, 0, none⟩)] 43)) := (Below.refl _ _).alloc (Nat.le_refl _) _
    exact ⟨alloc_self w _, (hb.block c hcl).trans hbox, hown.below hb, hb.mono hC⟩
  have HAP := hide hap
  have HKL := hide hkl
  clear hbox hown hap hkl
  go_enter Tryz.func21, Tryz.ntmps21
  go_wp2
  go_loopw [9] (fun iv wr => ∃ (i : Nat) (l' : List (NodeD × Value)), i ≤ l.length ∧ iv = .int .i64 i ∧ SortedTo l l' i ∧ ApartK l' ∧ SInv C w wr w.heap.size c (.slice (some ⟨g, 0, none⟩) l.length cap) bm br l l' ∧ w.heap.size < wr.heap.size) (fun iv _ => l.length - (intOf iv).toNat)
  case atStart => exact ⟨0, l, Nat.zero_le _, rfl, sorted_start l, HAP.out, unhide HI0, by simp⟩
  case round =>
    obtain ⟨i, l', hi, rfl, hst, hap, hinv, hws⟩ := hrel
    by_cases hlt : i < l.length
    · obtain ⟨p, hp⟩ : ∃ p, l[i]? = some p := ⟨_, List.getElem?_eq_getElem hlt⟩
      obtain ⟨ks, hk, hperm, _, hsame⟩ := hst.2 i p hp
      have hks := hsame (Nat.le_refl _)
      have hkp := (unhide HKL) p (List.mem_of_getElem? hp)
      have hrow := hinv.own.2 _ (List.mem_of_getElem? hk)
      obtain ⟨c0, c1, c2, c3, c4, c5, c6⟩ := hinv.own.node (cap := cap) (by rw [hst.1]) hk
      have hwC : C ≤ wr.heap.size := by omega
      have HST := hide hst
      have HAPL := hide hap
      have HINV := hide hinv
      have HP := hide hp
      have HK := hide hk
      have hil : (i : Int) < (l.length : Int) := by omega
      clear hst hap hinv hp hk hsame hperm
      have hrow2 : wr.ownsRow C 3 1 p.2 ks.length (ints ks) := hrow
      clear hrow
      have c6' : wr.cell? ⟨g, i * 7 + 6, none⟩ = some p.2 := c6
      clear c6
      simp only [withKids] at c0 c1 c2 c3 c4 c5
      rcases hrow2.2 with ⟨e, h0⟩ | ⟨blk, kcap, cur, e, hCb, hcur, _⟩
      · rw [e] at c6'
        have HE := hide (sorted_same (unhide HST) HP.out HK.out (List.eq_nil_of_length_eq_zero h0))
        clear hrow2
        go_wp2_with (go_at_call 46; refine (sort_nil 47 _ _).mono ?_; rintro e w' ⟨rfl, hw'⟩; have hw' := hw'.symm; subst hw')
        go_roundw
        case rel => exact ⟨i + 1, l', by omega, by go_num, unhide HE, unhide HAPL, (unhide HINV).alloc hwC _, by simp; omega⟩
        case measure => simp [intOf]; omega
      · rw [e] at c6'
        have hpe := hide e
        obtain ⟨W1, hW1⟩ : ∃ W1, wr.alloc (.cells #[.int .u8 p.1.kind, .string p.1.name, .int .i64 p.1.up, .int .i64 p.1.size, .int .i64 p.1.time, .string p.1.text, .slice (some ⟨blk, 0, none⟩) ks.length kcap] 33) = W1 := ⟨_, rfl⟩
        have hinv1 : SInv C w W1 w.heap.size c (.slice (some ⟨g, 0, none⟩) l.length cap) bm br l l' := by rw [← hW1]; exact (unhide HINV).alloc hwC _
        have hws1 : w.heap.size < W1.heap.size := by rw [← hW1]; simp; omega
        have hrow1 : W1.ownsRow C 3 1 (.slice (some ⟨blk, 0, none⟩) ks.length kcap) ks.length (ints ks) := by rw [← hpe.out, ← hW1]; exact hrow2.alloc _
        have hlenL : (l.map (·.1)).length = l.length := List.length_map _
        have hg1 := hinv1.own.1.lt g rfl
        have hblk1 := hrow1.lt blk rfl
        have HC := hide (sort_row (c := c) (g := g) (cap := cap) (x := w.heap.size) (blk := blk) (kcap := kcap) (B := C) (l.map (·.1)) ks W1 (by have := hinv1.bx; simp [World.cell?, this]) (by rw [hlenL]; exact hinv1.box.cells.1)
          (fun j m hm => by
            rw [List.getElem?_map] at hm
            cases e3 : l[j]? with
            | none => rw [e3] at hm; cases hm
            | some q =>
              rw [e3] at hm
              cases hm
              obtain ⟨ks3, hk3, _⟩ := (unhide HST).2 j q e3
              exact (hinv1.own.node (cap := cap) (by rw [(unhide HST).1]) hk3).2.1)
          hrow1 (by rw [hlenL, hks]; exact hkp.2) (fun e4 => by have := hinv1.bx; obtain ⟨cur4, h4⟩ := own_block_cells hrow1 rfl; rw [← e4, this] at h4; cases h4) (fun e4 => own_not_boxV hrow1 hinv1.box (by decide) (by rw [e4]; rfl)) (fun e4 => own_apart hinv1.own.1 hrow1 (by decide) rfl (by rw [e4]; rfl)) hws1 (by omega) hg1.2 (by rw [hlenL]; exact hl1) (by rw [hks]; exact hkp.1))
        have HINV1 := hide hinv1
        have HW1 := hide hW1
        clear hrow2 hrow1 hcur hinv1 hg1 hblk1 hks hlenL hW1
        go_wp2_with fail
        rw [HW1.out]
        refine (unhide HC).mono ?_
        rintro e w2 ⟨rfl, ks', hperm, hpw, hrow3, hg3⟩
        have HE := hide (sorted_next (unhide HST) HP.out HK.out hperm hpw)
        have HI2 := hide ((unhide HINV1).sorted (unhide HAPL) HK.out hpe.out hrow3 hg3)
        have HA2 := hide (apart_set (n' := withKids p.1 ks') (unhide HAPL) HK.out)
        have hs2 := hg3.size
        clear hrow3 hg3 hpw hperm
        go_wp2
        go_roundw
        case rel => exact ⟨i + 1, _, by omega, by go_num, unhide HE, unhide HA2, unhide HI2, by omega⟩
        case measure => simp [intOf]; omega
    · obtain rfl : i = l.length := by omega
      have HX : Hid (SKPost C c (.slice (some ⟨g, 0, none⟩) l.length cap) bm br l w (.returned (.tuple #[])) wr) := ⟨rfl, l', hst, hinv.box, hinv.own, hinv.below⟩
      clear hst hap hinv
      go_wp2
      first | refine bodyPost_ret (results_none rfl _ _ _) rfl ?_ | refine bodyPost_end (results_none rfl _ _ _) rfl ?_
      exact unhide HX
end Go.Proofs.YtconbmfbokpklaaGreatDoor
/- The nodes as sortKids leaves them. -/
namespace Go.Proofs.YtconbmfbokpklaaGreatDoor
open Go.RowKit Go.Maps

theorem srt_of_sorted {l l' : List (NodeD × Value)} (h : SortedTo l l' l.length) (hne : ∀ (i : Nat) (n : NodeD), (l.map (·.1))[i]? = some n → n.kids.Pairwise (fun a b => nmL (l.map (·.1)) a ≠ nmL (l.map (·.1)) b)) : Srt (l.map (·.1)) (l'.map (·.1)) := by
  refine ⟨by rw [List.length_map, List.length_map, h.1], fun i n hi => ?_⟩
  have hn := hne i n hi
  rw [List.getElem?_map] at hi
  cases e : l[i]? with
  | none => rw [e] at hi; cases hi
  | some p =>
    rw [e] at hi
    cases hi
    obtain ⟨ks, h1, h2, h3, _⟩ := h.2 i p e
    refine ⟨ks, by rw [List.getElem?_map, h1]; rfl, h2, ?_⟩
    have hpw := h3 (List.getElem?_eq_some_iff.1 e).1
    have hn2 : ks.Pairwise (fun a b => nmL (l.map (·.1)) a ≠ nmL (l.map (·.1)) b) := (h2.pairwise_iff (fun {a b} hab => Ne.symm hab)).2 hn
    refine (hpw.and hn2).imp ?_
    rintro a b ⟨g1, g2⟩
    exact less_total _ _ (Ne.symm g2) g1
theorem KInv.kid_ne {L : List NodeD} {K : List ByteArray} (h : KInv L K) {i : Nat} {n : NodeD} (hi : L[i]? = some n) : n.kids.Pairwise (fun a b => nmL L a ≠ nmL L b) := by
  have hnd : n.kids.Pairwise (fun a b => a ≠ b) := h.knd i n hi
  refine hnd.imp_of_mem ?_
  intro a b ha hb hne e
  obtain ⟨ma, hma⟩ : ∃ m, L[a]? = some m := ⟨_, List.getElem?_eq_getElem (h.kid_lt hi a ha)⟩
  obtain ⟨mb, hmb⟩ : ∃ m, L[b]? = some m := ⟨_, List.getElem?_eq_getElem (h.kid_lt hi b hb)⟩
  rw [nmL_of hma, nmL_of hmb, ByteArray.toList_eq, ByteArray.toList_eq] at e
  have hn := bs_inj e
  exact hne (h.kid_only hi hb ha (x := ma.name) (nameIs_iff.2 ⟨mb, hmb, hn.symm⟩) (nameIs_iff.2 ⟨ma, hma, rfl⟩))
end Go.Proofs.YtconbmfbokpklaaGreatDoor
