import Derived.Test.YtfemboojdablhaaGreatDoorMi09
import Derived.Test.YtfemboojdablhaaGreatDoorMi10
import Derived.Laws.IdiomStrings
import Derived.Lib.BufferRead
import Derived.Deep.AppendLies
namespace Go.Proofs.YtfemboojdablhaaGreatDoor
open Go.RowKit Go.Maps
def bitsL (S : BSet) : List Value := (List.range 256).map (fun j => Value.bool (S j))
theorem bitsL_len (S : BSet) : (bitsL S).length = 256 := by rw [bitsL, List.length_map, List.length_range]
theorem bitsL_congr {S S' : BSet} (h : ∀ j, j < 256 → S j = S' j) : bitsL S = bitsL S' := by
  unfold bitsL
  exact List.map_congr_left (fun j hj => by rw [h j (List.mem_range.1 hj)])
theorem bitsL_get (S : BSet) {i : Nat} (hi : i < 256) : (bitsL S)[i]? = some (.bool (S i)) := by
  rw [bitsL, List.getElem?_map, List.getElem?_range hi]
  rfl
def updD (S : BSet) (i : Nat) (b : Bool) : BSet := fun j => if j = i then b else S j
theorem bitsL_set (S : BSet) (i : Nat) (b : Bool) : (bitsL S).set i (.bool b) = bitsL (updD S i b) := by
  apply List.ext_getElem?
  intro j
  rw [List.getElem?_set]
  by_cases hj : j < 256
  · by_cases h : i = j
    · subst h
      rw [if_pos rfl, if_pos (by rw [bitsL_len]; exact hj), bitsL_get _ hj]
      simp [updD]
    · rw [if_neg h, bitsL_get _ hj, bitsL_get _ hj]
      have h' : ¬ j = i := fun e => h e.symm
      simp [updD, h']
  · rw [List.getElem?_eq_none (l := bitsL (updD S i b)) (by rw [bitsL_len]; omega)]
    split
    · rw [if_neg (by rw [bitsL_len]; omega)]
    · exact List.getElem?_eq_none (by rw [bitsL_len]; omega)
def BBlk (W : World) (g : Nat) (t : TypeId) (pre : List Value) (S : BSet) (post : List Value) : Prop := W.heap[g]? = some (.cells (pre ++ (bitsL S ++ post)).toArray t (0, 0))
theorem BBlk.cell {W : World} {g t : Nat} {pre post : List Value} {S : BSet} (h : BBlk W g t pre S post) {i : Nat} (hi : i < 256) : W.cell? ⟨g, pre.length + i, none⟩ = some (.bool (S i)) := by
  unfold BBlk at h
  simp only [World.cell?, h]
  show (pre ++ (bitsL S ++ post)).toArray[pre.length + i]? = _
  rw [List.getElem?_toArray, List.getElem?_append_right (by omega), Nat.add_sub_cancel_left, List.getElem?_append_left (by rw [bitsL_len]; exact hi), bitsL_get _ hi]
theorem BBlk.frozen {W : World} {g t : Nat} {pre post : List Value} {S : BSet} (h : BBlk W g t pre S post) (i : Nat) : W.frozen? ⟨g, i, none⟩ = false := by
  unfold BBlk at h
  simp [World.frozen?, h]
theorem BBlk.lt {W : World} {g t : Nat} {pre post : List Value} {S : BSet} (h : BBlk W g t pre S post) : g < W.heap.size := (Array.getElem?_eq_some_iff.1 h).1
theorem blk_set {W : World} {g t i : Nat} {xs : List Value} (h : W.heap[g]? = some (.cells xs.toArray t (0, 0))) (u : Value) : (W.setCell ⟨g, i, none⟩ u).heap[g]? = some (.cells (xs.set i u).toArray t (0, 0)) := by
  obtain ⟨hlt, hk⟩ := Array.getElem?_eq_some_iff.1 h
  show (W.heap.modify g _)[g]? = _
  rw [Array.getElem?_eq_getElem (by rw [Array.size_modify]; exact hlt), Array.getElem_modify_self, hk]
  simp
theorem BBlk.set {W : World} {g t : Nat} {pre post : List Value} {S : BSet} (h : BBlk W g t pre S post) {i : Nat} (hi : i < 256) (b : Bool) : BBlk (W.setCell ⟨g, pre.length + i, none⟩ (.bool b)) g t pre (updD S i b) post := by
  unfold BBlk at h ⊢
  rw [blk_set h]
  congr 3
  rw [List.set_append_right _ _ (by omega), Nat.add_sub_cancel_left, List.set_append_left _ _ (by rw [bitsL_len]; exact hi), bitsL_set]
theorem BBlk.kept {W W' : World} {row : Option Nat} {g t : Nat} {pre post : List Value} {S : BSet} (h : BBlk W g t pre S post) (hg : W.grownBy W' row) (hne : some g ≠ row) : BBlk W' g t pre S post := (hg.block g h.lt hne).trans h
theorem BBlk.congr {W : World} {g t : Nat} {pre post : List Value} {S S' : BSet} (h : BBlk W g t pre S post) (he : ∀ j, j < 256 → S j = S' j) : BBlk W g t pre S' post := by
  unfold BBlk at h ⊢
  rw [← bitsL_congr he]
  exact h
theorem grown_set {W W' : World} {g i n : Nat} {u : Value} (h : W.grownBy W' (some g)) : W.grownBy ((W'.setCell ⟨g, i, none⟩ u).drewN n) (some g) := by
  have h2 := h.trans (set_grown W' g i u)
  exact ⟨h2.os, h2.tape, h2.output, h2.size, h2.block⟩
theorem size_set {W : World} {a : Addr} {u : Value} {n : Nat} : ((W.setCell a u).drewN n).heap.size = W.heap.size := by
  show (W.heap.modify _ _).size = _
  rw [Array.size_modify]
set_option maxRecDepth 100000 in
set_option maxHeartbeats 400000 in
theorem turn_any (g o t : Nat) (pre post : List Value) (S : BSet) (w : World) (h : BBlk w g t pre S post) (ho : pre.length = o) :
    Calls Tryz.prog 257 #[.pointer (some ⟨g, o, none⟩)] w fun e w' => e = .returned (.tuple #[]) ∧ BBlk w' g t pre (fun j => !S j) post ∧ w.grownBy w' (some g) ∧ w'.heap.size = w.heap.size := by
  subst ho
  go_enter Tryz.func257, Tryz.ntmps257
  go_wp2
  go_loopw [3] (fun iv wr => ∃ i : Nat, iv = .int .i64 (i : Int) ∧ i ≤ 256 ∧ BBlk wr g t pre (fun j => if j < i then !S j else S j) post ∧ w.grownBy wr (some g) ∧ wr.heap.size = w.heap.size) (fun iv _ => 256 - (intOf iv).toNat)
  case atStart => exact ⟨0, rfl, Nat.zero_le _, h.congr (fun j _ => by simp), World.grownBy.refl _ _, rfl⟩
  case round =>
    obtain ⟨i, rfl, hi, hb, hg, hz⟩ := hrel
    by_cases hlt : i < 256
    · have hiI : (i : Int) < 256 := by omega
      have hc := hb.cell hlt
      have hfz := hb.frozen (pre.length + i)
      have hSi : (if i < i then !S i else S i) = S i := by simp
      simp only [hSi] at hc
      have HB := hide hb
      have HG := hide hg
      have HZ := hide hz
      clear hb hg hz hSi
      go_wp2
      go_region
      all_goals go_wp2
      go_roundw
      case rel =>
        refine ⟨i + 1, by simp, by omega, ?_, ?_, ?_⟩
        · have h2 := HB.out.set hlt (!S i)
          refine (BBlk.congr h2 (fun j hj => ?_))
          unfold updD
          by_cases e : j = i
          · subst e; simp
          · rw [if_neg e]
            show (if j < i then !S j else S j) = _
            by_cases e2 : j < i
            · rw [if_pos e2, if_pos (by omega)]
            · rw [if_neg e2, if_neg (by omega)]
        · exact grown_set (n := 1) HG.out
        · exact (size_set (n := 1)).trans HZ.out
      case measure => simp [intOf]; omega
    · have hiI : ¬ ((i : Int) < 256) := by omega
      go_wp2
      first | refine bodyPost_ret (results_none rfl _ _ _) rfl ?_ | refine bodyPost_end (results_none rfl _ _ _) rfl ?_
      exact ⟨rfl, hb.congr (fun j hj => by rw [if_pos (by omega)]), hg, hz⟩
set_option maxRecDepth 100000 in
set_option maxHeartbeats 400000 in
theorem add_set (g o t : Nat) (pre post : List Value) (S : BSet) (lo hi : Nat) (w : World) (h : BBlk w g t pre S post) (ho : pre.length = o) (hlo : lo < 256) (hhi : hi < 256) :
    Calls Tryz.prog 283 #[.pointer (some ⟨g, o, none⟩), .int .u8 (lo : Int), .int .u8 (hi : Int)] w fun e w' => e = .returned (.tuple #[]) ∧ BBlk w' g t pre (orD S (spanD lo hi)) post ∧ w.grownBy w' (some g) ∧ w'.heap.size = w.heap.size := by
  subst ho
  go_enter Tryz.func283, Tryz.ntmps283
  go_wp2
  go_loopw [6] (fun iv wr => ∃ i : Nat, iv = .int .i64 (i : Int) ∧ lo ≤ i ∧ i ≤ 256 ∧ (lo < i → i ≤ hi + 1) ∧ BBlk wr g t pre (fun j => S j || (decide (lo ≤ j) && decide (j < i))) post ∧ w.grownBy wr (some g) ∧ wr.heap.size = w.heap.size) (fun iv _ => 256 - (intOf iv).toNat)
  case atStart => exact ⟨lo, by simp, Nat.le_refl _, by omega, by omega, h.congr (fun j _ => by
    have : (decide (lo ≤ j) && decide (j < lo)) = false := by rw [Bool.and_eq_false_iff, decide_eq_false_iff_not, decide_eq_false_iff_not]; omega
    rw [this, Bool.or_false]), World.grownBy.refl _ _, rfl⟩
  case round =>
    obtain ⟨i, rfl, hi1, hi2, hi3, hb, hg, hz⟩ := hrel
    by_cases hlt : i ≤ hi
    · have hiI : (i : Int) ≤ (hi : Int) := by omega
      have hi256 : i < 256 := by omega
      have hiJ : (i : Int) < 256 := by omega
      have hc := hb.cell hi256
      have hfz := hb.frozen (pre.length + i)
      have HB := hide hb
      have HG := hide hg
      have HZ := hide hz
      clear hb hg hz
      go_wp2
      go_roundw
      case rel =>
        refine ⟨i + 1, by simp, by omega, by omega, by omega, ?_, ?_, ?_⟩
        · have h2 := HB.out.set hi256 true
          refine (BBlk.congr h2 (fun j hj => ?_))
          unfold updD
          by_cases e : j = i
          · subst e
            have e1 : decide (lo ≤ j) = true := decide_eq_true hi1
            have e2 : decide (j < j + 1) = true := decide_eq_true (by omega)
            simp only [if_true, e1, e2, Bool.and_self, Bool.or_true]
          · rw [if_neg e]
            show (S j || (decide (lo ≤ j) && decide (j < i))) = _
            have : decide (j < i) = decide (j < i + 1) := by rw [decide_eq_decide]; omega
            rw [this]
        · exact grown_set (n := 0) HG.out
        · exact (size_set (n := 0)).trans HZ.out
      case measure => simp [intOf]; omega
    · have hiI : ¬ ((i : Int) ≤ (hi : Int)) := by omega
      go_wp2
      first | refine bodyPost_ret (results_none rfl _ _ _) rfl ?_ | refine bodyPost_end (results_none rfl _ _ _) rfl ?_
      refine ⟨rfl, hb.congr (fun j hj => ?_), hg, hz⟩
      unfold orD spanD
      congr 1
      by_cases e1 : lo ≤ j
      · by_cases e2 : j ≤ hi
        · simp [e1, e2]; omega
        · simp [e1, e2]; omega
      · simp [e1]
set_option maxRecDepth 100000 in
set_option maxHeartbeats 1000000 in
theorem addClass_any (B g o t : Nat) (pre post : List Value) (S : BSet) (v : Value) (f : BSet) (w : World) (h : BBlk w g t pre S post) (ho : pre.length = o) (hv : FnIs B w v f) (hgB : g < B) :
    Calls Tryz.prog 281 #[.pointer (some ⟨g, o, none⟩), v] w fun e w' => e = .returned (.tuple #[]) ∧ BBlk w' g t pre (orD S f) post ∧ w.grownBy w' (some g) ∧ w'.heap.size = w.heap.size := by
  subst ho
  obtain ⟨n, lb, rfl, eg, _⟩ := hv.does w (KC.refl _ _)
  have HD := hide (hv.does)
  clear hv
  unfold fnV
  go_enter Tryz.func281, Tryz.ntmps281
  go_wp2
  go_loopw [5] (fun iv wr => ∃ i : Nat, iv = .int .i64 (i : Int) ∧ i ≤ 256 ∧ BBlk wr g t pre (fun j => if j < i then S j || f j else S j) post ∧ w.grownBy wr (some g) ∧ wr.heap.size = w.heap.size) (fun iv _ => 256 - (intOf iv).toNat)
  case atStart => exact ⟨0, rfl, Nat.zero_le _, h.congr (fun j _ => by simp), World.grownBy.refl _ _, rfl⟩
  case round =>
    obtain ⟨i, rfl, hi, hb, hg, hz⟩ := hrel
    by_cases hlt : i < 256
    · have hiI : (i : Int) < 256 := by omega
      have hc := hb.cell hlt
      have hfz := hb.frozen (pre.length + i)
      have hSi : (if i < i then S i || f i else S i) = S i := by simp
      simp only [hSi] at hc
      have hkc : KC B w wr := fun a v ha e => hg.cell e (by intro e2; have : a.block = g := Option.some.inj e2; omega)
      obtain ⟨n', lb', e', _, C⟩ := HD.out wr.drew (fun a v ha e => hkc a v ha e)
      have e1 : n' = n ∧ lb' = lb := by
        unfold fnV at e'
        simp only [Value.func.injEq, Fn.func.injEq, true_and] at e'
        exact ⟨e'.1.symm, e'.2.symm⟩
      obtain ⟨rfl, rfl⟩ := e1
      have C1 := C i hlt
      have hwr : IntKind.u8.wrap (i : Int) = (i : Int) := by rw [IntKind.wrap_u8]; omega
      have HB := hide hb
      have HG := hide hg
      have HZ := hide hz
      clear hb hg hz hSi hkc C e'
      cases hS : S i
      · rw [hS] at hc
        go_wp2
        go_region_with (go_at_fn n'; refine C1.mono ?_; rintro e w' ⟨rfl, q, rfl⟩)
        go_wp2
        go_roundw
        case rel =>
          refine ⟨i + 1, by simp, by omega, ?_, ?_, ?_⟩
          · have h2 := HB.out.set hlt (f i)
            refine (BBlk.congr h2 (fun j hj => ?_))
            unfold updD
            by_cases e : j = i
            · subst e; rw [if_pos rfl, if_pos (by omega), hS, Bool.false_or]
            · rw [if_neg e]
              show (if j < i then S j || f j else S j) = _
              by_cases e2 : j < i
              · rw [if_pos e2, if_pos (by omega)]
              · rw [if_neg e2, if_neg (by omega)]
          · exact grown_set (n := _) HG.out
          · show (Array.modify _ _ _).size = _
            rw [Array.size_modify]
            exact HZ.out
        case measure => simp [intOf]; omega
      · rw [hS] at hc
        go_wp2
        go_region
        go_wp2
        go_roundw
        case rel =>
          refine ⟨i + 1, by simp, by omega, ?_, ?_, ?_⟩
          · have h2 := HB.out.set hlt true
            refine (BBlk.congr h2 (fun j hj => ?_))
            unfold updD
            by_cases e : j = i
            · subst e; rw [if_pos rfl, if_pos (by omega), hS, Bool.true_or]
            · rw [if_neg e]
              show (if j < i then S j || f j else S j) = _
              by_cases e2 : j < i
              · rw [if_pos e2, if_pos (by omega)]
              · rw [if_neg e2, if_neg (by omega)]
          · exact grown_set (n := _) HG.out
          · show (Array.modify _ _ _).size = _
            rw [Array.size_modify]
            exact HZ.out
        case measure => simp [intOf]; omega
    · have hiI : ¬ ((i : Int) < 256) := by omega
      go_wp2
      first | refine bodyPost_ret (results_none rfl _ _ _) rfl ?_ | refine bodyPost_end (results_none rfl _ _ _) rfl ?_
      exact ⟨rfl, hb.congr (fun j hj => by rw [if_pos (by omega)]; rfl), hg, hz⟩
end Go.Proofs.YtfemboojdablhaaGreatDoor
namespace Go.Proofs.YtfemboojdablhaaGreatDoor
open Go.RowKit Go.Maps
def u8s (l : List UInt8) : List Value := l.map fun b => Value.int .u8 (b.toNat : Int)
theorem u8s_append (a b : List UInt8) : u8s (a ++ b) = u8s a ++ u8s b := List.map_append
theorem Tryz.info5' : (Tryz.prog.info? 5).map (fun i => (i.zero, i.size, i.bytes)) = some (some (.int .u8 0), 1, 1) := by kernel_rfl
theorem Tryz.u87 : Tryz.prog.underlying 87 = some (.slice 5) := by kernel_rfl
theorem Tryz.u5 : Tryz.prog.underlying 5 = some (.int .u8) := by kernel_rfl
theorem conv_any {B : Nat} {w : World} {v : Value} {l : List UInt8} (h : w.ownsRow B 5 1 v l.length (u8s l)) : (Go.convert 87 9 v).run Tryz.prog w = .ok (.string ⟨l.toArray⟩) w := by
  have h' := h
  rcases h.2 with ⟨e, e2⟩ | ⟨g, cap, cur, e, hb, hg, hn, hm, hs, ht⟩
  · subst e
    have : l = [] := List.length_eq_zero_iff.1 e2
    subst this
    exact Lib.run_convert_nil_bytes w 87 9 5 0 Tryz.u87 Tryz.u5 Tryz.underlying9'
  · subst e
    refine run_convert_bytes_back w 87 9 5 ⟨g, 0, none⟩ cap l Tryz.u87 Tryz.u5 Tryz.underlying9' (fun j hj => ?_)
    have := World.ownsRow.cells h' (g := g) rfl j (.int .u8 (l[j].toNat : Int)) (by rw [u8s, List.getElem?_map, List.getElem?_eq_getElem hj]; rfl)
    exact this
def textTo (S : BSet) (i : Nat) : List UInt8 := ((List.range i).filter S).map UInt8.ofNat
theorem textTo_succ (S : BSet) (i : Nat) : textTo S (i + 1) = textTo S i ++ (if S i = true then [UInt8.ofNat i] else []) := by
  unfold textTo
  rw [List.range_succ, List.filter_append, List.map_append]
  congr 1
  by_cases h : S i = true
  · simp [h]
  · simp [h]
theorem textTo_len (S : BSet) (i : Nat) : (textTo S i).length ≤ i := by
  unfold textTo
  rw [List.length_map]
  exact Nat.le_trans (List.length_filter_le _ _) (by simp)
set_option maxRecDepth 100000 in
set_option maxHeartbeats 1000000 in
theorem text_any (g o t : Nat) (pre post : List Value) (S : BSet) (w : World) (h : BBlk w g t pre S post) (ho : pre.length = o) :
    Calls Tryz.prog 229 #[.pointer (some ⟨g, o, none⟩)] w fun e w' => e = .returned (.string ⟨(textD S).toArray⟩) ∧ Below w.heap.size w w' := by
  subst ho
  obtain ⟨i0, hi0, hz0, hz1, hz2⟩ := info_parts Tryz.info5'
  obtain ⟨W, hmk, hown, hgr⟩ := run_makeSlice_owned (P := Tryz.prog) (w := w) w.heap.size 87 5 i0 (.int .u8 0) 1 Tryz.u87 hi0 hz0 hz1 .i64 .i64 256 (by decide) (by rw [hz2]; decide) (by unfold maxLen; decide) (Nat.le_refl _)
  have hmk' : (Instr.makeSlice 87 (.int .i64 0) (.int .i64 256)).run Tryz.prog w = .ok (.slice (some ⟨w.heap.size, 0, none⟩) 0 256) W := hmk
  clear hmk
  have hbW : BBlk W g t pre S post := h.kept hgr (by simp)
  have hBW : Below w.heap.size w W := ⟨hgr.os, hgr.tape, hgr.output, hgr.size, fun k hk => hgr.block k hk (by simp)⟩
  have hglt := h.lt
  have HOWN := hide hown
  have HBW := hide hBW
  have HBK := hide hbW
  clear hown hgr hbW hBW h
  go_enter Tryz.func229, Tryz.ntmps229
  go_wp2
  go_loopw [3, 8] (fun ov iv wr => ∃ i : Nat, iv = .int .i64 (i : Int) ∧ i ≤ 256 ∧ BBlk wr g t pre S post ∧ wr.ownsRow w.heap.size 5 1 ov (textTo S i).length (u8s (textTo S i)) ∧ Below w.heap.size w wr ∧ ∃ b n c, ov = .slice (some ⟨b, 0, none⟩) n c) (fun _ iv _ => 256 - (intOf iv).toNat)
  case atStart => exact ⟨0, rfl, Nat.zero_le _, HBK.out, HOWN.out, HBW.out, _, _, _, rfl⟩
  case round =>
    obtain ⟨i, rfl, hi, hb, hown, hbel, bo, no, co, rfl⟩ := hrel
    have hno : no = (textTo S i).length := by
      rcases hown.2 with ⟨e, _⟩ | ⟨g', cap, cur, e, _⟩
      · cases e
      · cases e; rfl
    subst hno
    have hlen := textTo_len S i
    by_cases hlt : i < 256
    · have hiI : (i : Int) < 256 := by omega
      have hc := hb.cell hlt
      have hwr : IntKind.u8.wrap (i : Int) = (i : Int) := by rw [IntKind.wrap_u8]; omega
      have hsucc := textTo_succ S i
      have hbs := hbel.size
      cases hS : S i
      · rw [hS] at hc hsucc
        simp only [Bool.false_eq_true, if_false, List.append_nil] at hsucc
        have HB := hide (And.intro hb (And.intro hown (And.intro hbel hsucc)))
        clear hb hown hbel hsucc
        go_wp2
        go_region
        go_wp2
        go_roundw
        case rel =>
          obtain ⟨h1, h2, h3, h4⟩ := HB.out
          exact ⟨i + 1, by simp, by omega, h1, by rw [h4]; exact h2, ⟨h3.os, h3.tape, h3.output, h3.size, h3.block⟩, _, _, _, rfl⟩
        case measure => simp [intOf]; omega
      · rw [hS] at hc hsucc
        simp only [if_true] at hsucc
        have hnews : ∀ q : World, ∀ j u, [Value.int .u8 (i : Int)][j]? = some u → (q.alloc (.cells #[.int .u8 (i : Int)] 5)).cell? ((⟨q.heap.size, 0, none⟩ : Addr).add j) = some u := fun q => cell_one_new q _ 5
        have hmaxl : (textTo S i).length + 1 ≤ maxLen := by unfold maxLen; omega
        have HB := hide (And.intro hb (And.intro hown (And.intro hbel hsucc)))
        have HON := hide (hown)
        have HNEWS := hide hnews
        clear hb hown hbel hsucc hnews
        go_wp2
        go_region
        go_wp2_with (at_builtin; refine wpList_append_lies _ rfl (.tmp 15) (.tmp 18) 87 rfl w.heap.size 5 i0 _ 1 1 Tryz.u87 hi0 hz0 hz1 hz2 rfl (by decide) (.slice (some ⟨bo, 0, none⟩) (textTo S i).length co) (textTo S i).length (u8s (textTo S i)) rfl (HON.out.alloc _) ⟨wr.heap.size, 0, none⟩ 1 1 [.int .u8 (i : Int)] rfl rfl (HNEWS.out _) (by simp [Value.oneCell']) (by decide) hmaxl (by omega) (by simp; omega) _ rfl ?_; intro g1 c1 w1 hown1 hgr1 hat1 hlt1)
        go_roundw
        case rel =>
          obtain ⟨h1, h2, h3, h4⟩ := HB.out
          have hboB : w.heap.size ≤ bo := by
            rcases h2.2 with ⟨e, _⟩ | ⟨g', cap, cur, e, hbb, _⟩
            · cases e
            · cases e; exact hbb
          have a1 := World.grownBy_alloc wr (.cells #[.int .u8 (i : Int)] 5) (some bo)
          have a2 : wr.grownBy w1 (some bo) := a1.trans ⟨hgr1.os, hgr1.tape, hgr1.output, hgr1.size, hgr1.block⟩
          have hofn : ((UInt8.ofNat i).toNat : Int) = (i : Int) := by
            rw [UInt8.toNat_ofNat', Nat.mod_eq_of_lt (by omega)]
          refine ⟨i + 1, by simp, by omega, h1.kept a2 (fun e => by have := Option.some.inj e; omega), ?_, h3.grown a2 h3.size (fun k e => by cases e; exact hboB), _, _, _, rfl⟩
          rw [h4, List.length_append, u8s_append]
          have e5 : u8s [UInt8.ofNat i] = [.int .u8 (i : Int)] := by rw [u8s, List.map_cons, List.map_nil, hofn]
          rw [e5]
          exact hown1
        case measure => simp [intOf]; omega
    · have hiI : ¬ ((i : Int) < 256) := by omega
      have hcv := conv_any hown
      have hie : i = 256 := by omega
      subst hie
      have HB := hide hbel
      clear hb hown hbel
      go_wp2
      go_ret
      exact ⟨rfl, HB.out⟩
end Go.Proofs.YtfemboojdablhaaGreatDoor
