/- The document's live, shut and pieces. -/
import Derived.Test.YtgpgbobmpdgfeaaDoorBsA
import Derived.Test.YtgpgbobmpdgfeaaDoorBrZ
import Derived.Laws.MakeOwn
namespace Go.Proofs.YtgpgbobmpdgfeaaDoor
open Go.RowKit Go.Shelf

def blD (s : List UInt8) (i n : Nat) : List Bool := (List.range n).map fun j => decide (j < i) && !esc s j
theorem bl_len (s : List UInt8) (i n : Nat) : (blD s i n).length = n := by unfold blD; simp
theorem bl_set {s : List UInt8} {i n : Nat} (he : esc s i = false) : (blD s i n).set i true = blD s (i + 1) n := by
  apply List.ext_getElem?
  intro j
  unfold blD
  rw [List.getElem?_set, List.getElem?_map, List.getElem?_map, List.length_map, List.length_range]
  by_cases e : i = j
  · subst e
    by_cases h : i < n
    · simp [h, he]
    · simp [h]
  · rw [if_neg e]
    by_cases h : j < n
    · rw [List.getElem?_range h]
      have : (j < i + 1) ↔ (j < i) := by omega
      simp [this]
    · rw [List.getElem?_eq_none (by simp; omega)]
      rfl
theorem bl_skip {s : List UInt8} {i n : Nat} (he : esc s i = true) : blD s (i + 1) n = blD s i n := by
  unfold blD
  apply List.map_congr_left
  intro j hj
  by_cases e : j = i
  · subst e; simp [he]
  · have : (j < i + 1) ↔ (j < i) := by omega
    simp [this]
theorem bl_all {s : List UInt8} {i n : Nat} (h : n ≤ i) : blD s i n = (List.range n).map fun j => !esc s j := by
  unfold blD
  apply List.map_congr_left
  intro j hj
  rw [List.mem_range] at hj
  have : j < i := by omega
  simp [this]
def BoolB (W : World) (g : Nat) (l : List Bool) : Prop := W.heap[g]? = some (.cells (l.map Value.bool).toArray 4 (0, 0))
theorem BoolB.set {W : World} {g : Nat} {l : List Bool} (h : BoolB W g l) (i : Nat) (c : Bool) : BoolB (W.setCell ⟨g, i, none⟩ (.bool c)) g (l.set i c) := by
  obtain ⟨hl, hk⟩ := Array.getElem?_eq_some_iff.1 h
  unfold BoolB
  show (W.heap.modify g _)[g]? = _
  rw [Array.getElem?_eq_getElem (by rw [Array.size_modify]; exact hl), Array.getElem_modify_self, hk]
  have e : (l.map Value.bool).toArray.set! i (.bool c) = ((l.set i c).map Value.bool).toArray := by simp [List.map_set]
  show some (Obj.cells ((l.map Value.bool).toArray.set! i (.bool c)) 4 (0, 0)) = _
  rw [e]
theorem BoolB.cell {W : World} {g : Nat} {l : List Bool} (h : BoolB W g l) {i : Nat} {c : Bool} (hi : l[i]? = some c) : W.cell? ⟨g, i, none⟩ = some (.bool c) := by
  unfold BoolB at h
  simp [World.cell?, h, hi]
theorem BoolB.frozen {W : World} {g : Nat} {l : List Bool} (h : BoolB W g l) (i : Nat) : W.frozen? ⟨g, i, none⟩ = false := by
  unfold BoolB at h
  simp [World.frozen?, h]
/-- Which bytes are live: the row lies there. -/
def LiveR (W : World) (v : Value) (s : List UInt8) : Prop := ∃ g c, v = .slice (some ⟨g, 0, none⟩) s.length c ∧ BoolB W g ((List.range s.length).map fun j => !esc s j)
theorem live_cell {W : World} {g : Nat} {s : List UInt8} (h : BoolB W g ((List.range s.length).map fun j => !esc s j)) {i : Nat} (hi : i < s.length) : W.cell? ⟨g, i, none⟩ = some (.bool (!esc s i)) := h.cell (by rw [List.getElem?_map, List.getElem?_range hi]; rfl)
theorem Tryd.info4' : (Tryd.prog.info? 4).map (fun i => (i.zero, i.size, i.bytes)) = some (some (.bool false), 1, 1) := by kernel_rfl
theorem und50 : Tryd.prog.underlying 50 = some (.slice 4) := by kernel_rfl
theorem made_bools (n : Nat) : (madeCells (Value.bool false).cells (n * 1)).toList = (List.replicate n false).map Value.bool := by
  apply List.ext_getElem?
  intro i
  rw [List.map_replicate, List.getElem?_replicate]
  show (madeCells #[Value.bool false] (n * 1)).toList[i]? = _
  unfold madeCells
  rw [Nat.mul_one, Array.toList_map, List.getElem?_map, Array.toList_range]
  by_cases hi : i < n
  · rw [List.getElem?_range hi, if_pos hi]
    simp [Nat.mod_one]
  · rw [List.getElem?_eq_none (by simp; omega), if_neg hi]
    rfl
theorem bl_zero (s : List UInt8) (n : Nat) : blD s 0 n = List.replicate n false := by
  unfold blD
  apply List.ext_getElem?
  intro j
  rw [List.getElem?_map, List.getElem?_replicate]
  by_cases h : j < n
  · rw [List.getElem?_range h, if_pos h]; simp
  · rw [List.getElem?_eq_none (by simp; omega), if_neg h]; rfl
set_option maxRecDepth 100000 in
set_option maxHeartbeats 2000000 in
theorem live_any (s : List UInt8) (hs : s.length ≤ 1000000) (w : World) : Calls Tryd.prog 18 #[.string (bs s)] w fun e w' => ∃ v, e = .returned v ∧ LiveR w' v s ∧ Below w.heap.size w w' := by
  have hsz := bs_size s
  obtain ⟨i0, hi0, hz0, hz1, hz2⟩ := info_parts Tryd.info4'
  obtain ⟨W, hmk, hown, hgr⟩ := run_makeSlice_full (P := Tryd.prog) (w := w) w.heap.size 50 4 i0 (.bool false) 1 und50 hi0 hz0 hz1 .i64 .i64 s.length (by omega) (by rw [hz2]; omega) (by unfold maxLen; omega) (Nat.le_refl _)
  have hout : BoolB W w.heap.size (blD s 0 s.length) := by
    rcases hown.2 with ⟨e, _⟩ | ⟨g, cap, cur, e, _, hg, _, _, hcz, hct⟩
    · cases e
    · cases e
      have e2 : cur.toList = (blD s 0 s.length).map Value.bool := by
        rw [List.take_of_length_le (by rw [Array.length_toList, hcz]; exact Nat.le_refl _), made_bools] at hct
        rw [hct, bl_zero]
      unfold BoolB
      rw [hg, ← e2]
  have hbw : Below w.heap.size w W := ⟨hgr.os, hgr.tape, hgr.output, hgr.size, fun k hk => hgr.block k hk (fun e => by cases e)⟩
  have HO := hide hout
  have HB := hide hbw
  clear hown hgr hout hbw
  go_enter Tryd.func18, Tryd.ntmps18
  go_wp2
  go_loopw [4] (fun iv wr => ∃ i : Nat, iv = .int .i64 (i : Int) ∧ i ≤ s.length + 1 ∧ (i < s.length → esc s i = false) ∧ BoolB wr w.heap.size (blD s i s.length) ∧ Below w.heap.size w wr) (fun iv _ => s.length + 2 - (intOf iv).toNat)
  case atStart => exact ⟨0, rfl, by omega, fun _ => rfl, HO.out, HB.out⟩
  case round =>
    obtain ⟨i, rfl, hi, hesc, hbl, hnx⟩ := hrel
    by_cases hlt : i < s.length
    · have hiI : (i : Int) < (s.length : Int) := by omega
      have he := hesc hlt
      obtain ⟨c, hc⟩ : ∃ c, s[i] = c := ⟨_, rfl⟩
      have hbk : i < (bs s).size := by rw [hsz]; exact hlt
      have hg : (bs s)[i]'hbk = c := by rw [← hc]; rfl
      obtain ⟨u, hcell⟩ : ∃ u, wr.cell? ⟨w.heap.size, i, none⟩ = some (.bool u) := by
        have hl := bl_len s i s.length
        exact ⟨_, hbl.cell (List.getElem?_eq_getElem (by rw [hl]; exact hlt))⟩
      have hfr := hbl.frozen i
      have hn := hbl.set i true
      rw [bl_set he] at hn
      have hb' : Below w.heap.size w (wr.setCell ⟨w.heap.size, i, none⟩ (.bool true)) := hnx.setCell (p := ⟨w.heap.size, i, none⟩) (Nat.le_refl _) _
      have hes := esc_next hlt
      rw [he, hc] at hes
      have HN := hide (And.intro hn (And.intro hb' hes))
      clear hn hb' hbl hnx hes hesc hc
      by_cases h92 : c = 92
      · have e1 : ((c.toNat : Int) == 92) = true := by rw [h92]; rfl
        have HC := hide h92
        clear h92
        go_wp2
        go_roundw
        case rel =>
          obtain ⟨hn, hb', hes⟩ := HN.out
          rw [HC.out] at hes
          have hes : esc s (i + 1) = true := hes
          refine ⟨i + 2, by simp; omega, by omega, fun h => ?_, ?_, hb'⟩
          · rw [show i + 2 = i + 1 + 1 from rfl, esc, hes]; rfl
          · rw [show i + 2 = i + 1 + 1 from rfl, bl_skip hes]
            exact hn
        case measure => simp [intOf]; omega
      · have e1 : ((c.toNat : Int) == 92) = false := by
          have := nat_eq c 92
          have h2 : (c == 92) = false := by simpa using h92
          rw [h2] at this
          exact this
        have HC := hide h92
        clear h92
        go_wp2
        go_roundw
        case rel =>
          obtain ⟨hn, hb', hes⟩ := HN.out
          have h92 := HC.out
          have hes : esc s (i + 1) = false := by rw [hes]; simpa using h92
          exact ⟨i + 1, by simp, by omega, fun _ => hes, hn, hb'⟩
        case measure => simp [intOf]; omega
    · have hiI : ¬ ((i : Int) < (s.length : Int)) := by omega
      go_wp2
      go_ret
      refine ⟨_, rfl, ⟨w.heap.size, s.length, rfl, ?_⟩, hnx⟩
      rw [bl_all (by omega)] at hbl
      exact hbl
def closeI : Option Nat → Int
  | none => -1
  | some k => (k : Int)
set_option maxRecDepth 100000 in
set_option maxHeartbeats 4000000 in
theorem shut_any (s : List UInt8) (hs : s.length ≤ 1000000) (v : Value) (w : World) (hv : LiveR w v s) (i : Nat) (hi : i < s.length) (he : esc s i = false) (hc : s[i] = 123) :
    Calls Tryd.prog 19 #[.string (bs s), v, .int .i64 (i : Int)] w fun e w' => e = .returned (.int .i64 (closeI (closeD 0 (remS s (i + 1))))) ∧ w' = w := by
  obtain ⟨g, cp, rfl, hbl⟩ := hv
  have hsz := bs_size s
  have HBL := hide hbl
  clear hbl
  obtain ⟨o, ho⟩ : ∃ o, closeD 0 (remS s (i + 1)) = o := ⟨_, rfl⟩
  rw [ho]
  go_enter Tryd.func19, Tryd.ntmps19
  go_wp2
  go_loopw [8, 7] (fun kv dv wr => wr = w ∧ ∃ (k : Nat), kv = .int .i64 (k : Int) ∧ i ≤ k ∧ k ≤ s.length ∧ ((k = i ∧ dv = .int .i64 0) ∨ (i < k ∧ ∃ d : Nat, dv = .int .i64 ((d : Int) + 1) ∧ d ≤ k ∧ closeD d (remS s k) = o))) (fun kv _ _ => s.length - (intOf kv).toNat)
  case atStart => exact ⟨rfl, i, rfl, Nat.le_refl _, by omega, .inl ⟨rfl, rfl⟩⟩
  case round =>
    obtain ⟨rfl, k, rfl, hik, hks, hcase⟩ := hrel
    by_cases hlt : k < s.length
    · have hkI : (k : Int) < (s.length : Int) := by omega
      have hcell := live_cell HBL.out hlt
      obtain ⟨c, hc'⟩ : ∃ c, s[k] = c := ⟨_, rfl⟩
      have hbk : k < (bs s).size := by rw [hsz]; exact hlt
      have hg : (bs s)[k]'hbk = c := by rw [← hc']; rfl
      rcases hcase with ⟨rfl, rfl⟩ | ⟨hik2, d, rfl, hdk, hcl⟩
      · have hc2 : c = 123 := hc'.symm.trans hc
        have e1 : ((c.toNat : Int) == 123) = true := by rw [hc2]; rfl
        have e2 : ((c.toNat : Int) == 125) = false := by rw [hc2]; rfl
        rw [he] at hcell
        clear hc2 hc'
        have HO := hide ho
        clear ho
        go_wp2
        go_roundw
        case rel => exact ⟨trivial, k + 1, by simp, by omega, by omega, .inr ⟨by omega, 0, rfl, by omega, HO.out⟩⟩
        case measure => simp [intOf]; omega
      · have hdb : d ≤ 1000000 := by omega
        cases hek : esc s k with
        | true =>
          rw [hek] at hcell
          rw [(rem_esc hlt hek).1] at hcl
          have HC := hide hcl
          clear hcl hc' hek
          go_wp2
          go_roundw
          case rel => exact ⟨trivial, k + 1, by simp, by omega, by omega, .inr ⟨by omega, d, rfl, by omega, HC.out⟩⟩
          case measure => simp [intOf]; omega
        | false =>
          rw [hek] at hcell
          rcases sign_cases c with e1 | ⟨e1, e2⟩ | ⟨e1, e2⟩
          · have hc2 : c = 123 := by simpa using is123 e1
            have e2 : ((c.toNat : Int) == 125) = false := by rw [hc2]; rfl
            have hr := (rem_hit hlt hek (by rw [hc', hc2]; rfl)).1
            rw [hr, hc', closeD, if_pos hc2] at hcl
            have HC := hide hcl
            clear hcl hc' hek hc2 hr
            go_wp2
            go_roundw
            case rel => exact ⟨trivial, k + 1, by simp, by omega, by omega, .inr ⟨by omega, d + 1, by simp, by omega, HC.out⟩⟩
            case measure => simp [intOf]; omega
          · have hc1 : ¬ c = 123 := by simpa using is123 e1
            have hc2 : c = 125 := by simpa using is125 e2
            have hr := (rem_hit hlt hek (by rw [hc', hc2]; rfl)).1
            rw [hr, hc', closeD, if_neg hc1, if_pos hc2] at hcl
            by_cases hd0 : d = 0
            · rw [if_pos hd0] at hcl
              have HC := hide hcl
              subst hd0
              clear hcl hc' hek hc2 hr hc1
              go_wp2
              go_ret
              rw [← HC.out]
              exact ⟨rfl, rfl⟩
            · rw [if_neg hd0] at hcl
              have HC := hide hcl
              have hdI : ((d : Int) == 0) = false := by rw [beq_eq_false_iff_ne]; omega
              clear hcl hc' hek hc2 hr hc1
              go_wp2
              go_roundw
              case rel => exact ⟨trivial, k + 1, by simp, by omega, by omega, .inr ⟨by omega, d - 1, by simp; omega, by omega, HC.out⟩⟩
              case measure => simp [intOf]; omega
          · have hc1 : ¬ c = 123 := by simpa using is123 e1
            have hc2 : ¬ c = 125 := by simpa using is125 e2
            have HC : Hid (closeD d (remS s (k + 1)) = o) := by
              show closeD d (remS s (k + 1)) = o
              cases hsg : isSign s[k] with
              | true =>
                rw [(rem_hit hlt hek hsg).1, hc', closeD, if_neg hc1, if_neg hc2] at hcl
                exact hcl
              | false =>
                rw [rem_miss hlt hek hsg] at hcl
                exact hcl
            clear hcl hc' hek hc2 hc1
            go_wp2
            go_roundw
            case rel => exact ⟨trivial, k + 1, by simp, by omega, by omega, .inr ⟨by omega, d, rfl, by omega, HC.out⟩⟩
            case measure => simp [intOf]; omega
    · have hkI : ¬ ((k : Int) < (s.length : Int)) := by omega
      have HX : Hid (o = none) := by
        show o = none
        rcases hcase with ⟨rfl, _⟩ | ⟨_, d, _, _, hcl⟩
        · omega
        · rw [rem_end (by omega)] at hcl
          rw [← hcl]
          rfl
      clear hcase
      go_wp2
      go_ret
      rw [HX.out]
      exact ⟨rfl, rfl⟩
end Go.Proofs.YtgpgbobmpdgfeaaDoor
