/- Merged: IgA, IgB, IgC, IgD, IgE. -/
import Derived.Test.YtjbdoeoimodhkaaGreatDoorGbName
import Derived.Test.YtjbdoeoimodhkaaGreatDoorJpa
import Derived.Lib.TrimByte
import Derived.Test.YtjbdoeoimodhkaaGreatDoorGbMatch
import Derived.Test.YtjbdoeoimodhkaaGreatDoorJte
/- What a line of rules says, plainly; cutBlanks. -/
namespace Go.Proofs.YtjbdoeoimodhkaaGreatDoor
open Go.RowKit Go.Maps

/-- A line without the blanks at its end that do not count. -/
def cutBlanksL (l : List UInt8) : List UInt8 :=
  if ((Lib.trimRightB l 32).length - (Lib.trimRightB (Lib.trimRightB l 32) 92).length) % 2 = 1 ∧ (Lib.trimRightB l 32).length < l.length then l.take ((Lib.trimRightB l 32).length + 1) else Lib.trimRightB l 32
theorem trim_len (l : List UInt8) (c : UInt8) : (Lib.trimRightB l c).length ≤ l.length := by
  unfold Lib.trimRightB
  rw [List.length_reverse]
  have := (List.dropWhile_sublist (l := l.reverse) (· == c)).length_le
  rw [List.length_reverse] at this
  exact this
theorem bs_size (l : List UInt8) : (⟨l.toArray⟩ : ByteArray).size = l.length := by
  show l.toArray.size = _
  simp
set_option maxRecDepth 100000 in
set_option maxHeartbeats 1000000 in
theorem cutBlanks_any (s : ByteArray) (w : World) (hs : s.size ≤ 1073741824) :
    Calls Tryz.prog 51 #[.string s] w fun e w' => e = .returned (.string (bs (cutBlanksL s.data.toList))) ∧ w' = w := by
  obtain ⟨B, hB⟩ : ∃ B : ByteArray, (⟨(Lib.trimRightB s.data.toList 32).toArray⟩ : ByteArray) = B := ⟨_, rfl⟩
  obtain ⟨C, hC⟩ : ∃ C : ByteArray, (⟨(Lib.trimRightB B.data.toList 92).toArray⟩ : ByteArray) = C := ⟨_, rfl⟩
  have sB : B.size = (Lib.trimRightB s.data.toList 32).length := by rw [← hB, bs_size]
  have dB : B.data.toList = Lib.trimRightB s.data.toList 32 := by rw [← hB]
  have sC : C.size = (Lib.trimRightB (Lib.trimRightB s.data.toList 32) 92).length := by rw [← hC, bs_size, dB]
  have lB : B.size ≤ s.size := by rw [sB, ← size_list s]; exact trim_len _ _
  have lC : C.size ≤ B.size := by rw [sC, sB]; exact trim_len _ _
  have h1 := Tryz.strings_TrimRight_one s 32 (by decide) w (by omega)
  have h2 := Tryz.strings_TrimRight_one B 92 (by decide) w (by omega)
  rw [hB] at h1
  rw [hC] at h2
  have HD := hide (⟨hB, sB, sC, dB⟩ : _ ∧ _ ∧ _ ∧ _)
  clear hB hC sB sC dB
  obtain ⟨d, hd⟩ : ∃ d : Nat, B.size = C.size + d := ⟨B.size - C.size, by omega⟩
  have hdI : (B.size : Int) - (C.size : Int) = (d : Int) := by omega
  have HDD := hide hd
  clear hd
  rcases Nat.mod_two_eq_zero_or_one d with hm | hm
  · have hmI : (d : Int).tmod 2 = 0 := by rw [Int.tmod_eq_emod_of_nonneg (by omega)]; omega
    go_enter Tryz.func51, Tryz.ntmps51
    go_wp2_with fail
    refine h1.mono ?_
    rintro e w' ⟨rfl, hw⟩
    rw [hw]
    clear hw
    go_wp2_with fail
    refine h2.mono ?_
    rintro e w2 ⟨rfl, hw⟩
    rw [hw]
    clear hw
    go_wp2
    go_ret
    refine ⟨?_, rfl⟩
    obtain ⟨hB, sB, sC, dB⟩ := HD.out
    have hn : ¬ (((Lib.trimRightB s.data.toList 32).length - (Lib.trimRightB (Lib.trimRightB s.data.toList 32) 92).length) % 2 = 1 ∧ (Lib.trimRightB s.data.toList 32).length < s.data.toList.length) := by
      rintro ⟨h, _⟩
      rw [← sB, ← sC] at h
      have := HDD.out
      omega
    unfold cutBlanksL
    rw [if_neg hn]
    show Ending.returned (.string B) = _
    rw [← hB]
    rfl
  · have hmI : (d : Int).tmod 2 = 1 := by rw [Int.tmod_eq_emod_of_nonneg (by omega)]; omega
    have hdm : ((Lib.trimRightB s.data.toList 32).length - (Lib.trimRightB (Lib.trimRightB s.data.toList 32) 92).length) % 2 = 1 := by
      obtain ⟨hB, sB, sC, dB⟩ := HD.out
      have := HDD.out
      rw [← sB, ← sC]
      omega
    have HM := hide hdm
    clear hdm
    by_cases hlt : B.size < s.size
    · have hltI : (B.size : Int) < (s.size : Int) := by omega
      have hle : (B.size : Int) + 1 ≤ (s.size : Int) := by omega
      have h0 : (0 : Int) ≤ (B.size : Int) + 1 := by omega
      go_enter Tryz.func51, Tryz.ntmps51
      go_wp2_with fail
      refine h1.mono ?_
      rintro e w' ⟨rfl, hw⟩
      rw [hw]
      clear hw
      go_wp2_with fail
      refine h2.mono ?_
      rintro e w2 ⟨rfl, hw⟩
      rw [hw]
      clear hw
      go_wp2
      go_ret
      refine ⟨?_, rfl⟩
      obtain ⟨hB, sB, sC, dB⟩ := HD.out
      have hsl := size_list s
      unfold cutBlanksL
      rw [if_pos ⟨HM.out, by rw [← sB, hsl]; exact hlt⟩, ← sB]
      show Ending.returned (.string (s.extract 0 (B.size + 1))) = _
      rw [extract_bs]
      simp
    · have hltI : ¬ (B.size : Int) < (s.size : Int) := by omega
      go_enter Tryz.func51, Tryz.ntmps51
      go_wp2_with fail
      refine h1.mono ?_
      rintro e w' ⟨rfl, hw⟩
      rw [hw]
      clear hw
      go_wp2_with fail
      refine h2.mono ?_
      rintro e w2 ⟨rfl, hw⟩
      rw [hw]
      clear hw
      go_wp2
      go_ret
      refine ⟨?_, rfl⟩
      obtain ⟨hB, sB, sC, dB⟩ := HD.out
      have hsl := size_list s
      unfold cutBlanksL
      rw [if_neg (by rintro ⟨_, h⟩; rw [← sB, hsl] at h; exact hlt h)]
      show Ending.returned (.string B) = _
      rw [← hB]
      rfl
end Go.Proofs.YtjbdoeoimodhkaaGreatDoor
/- takes, takesParts, readLine. -/
namespace Go.Proofs.YtjbdoeoimodhkaaGreatDoor
open Go.RowKit Go.Maps

def takesP (p : ByteArray) : Bool := (partsS p).all (fun q => decide (wrongD q = 0))
set_option maxRecDepth 100000 in
set_option maxHeartbeats 1000000 in
theorem takes_any (s : ByteArray) (w : World) (hM : MaxW w) (h2 : 6 < w.heap.size) :
    Calls Tryz.prog 43 #[.string s] w fun e w' => e = .returned (.bool (decide (wrongD s = 0))) ∧ Below w.heap.size w w' := by
  have hp := parse_any s true w hM h2
  go_enter Tryz.func43, Tryz.ntmps43
  go_wp2_with fail
  refine hp.mono ?_
  rintro e w1 ⟨op, v, ks, pl, rfl, hkin, _, _, hb⟩
  obtain ⟨pa, pc, rfl⟩ := kin_shape hkin
  have HB := hide hb
  clear hb hkin hp
  go_wp2
  go_ret
  refine ⟨?_, HB.out.alloc HB.out.size _⟩
  show Ending.returned (.bool ((wrongD s : Int) == 0)) = _
  by_cases h : wrongD s = 0
  · rw [h]; rfl
  · have e1 : ((wrongD s : Int) == 0) = false := by rw [beq_eq_false_iff_ne]; omega
    rw [e1, decide_eq_false h]
theorem all_drop {α : Type} (f : α → Bool) (l : List α) (k : Nat) (h : k < l.length) : (l.drop k).all f = (f l[k] && (l.drop (k + 1)).all f) := by
  rw [List.drop_eq_getElem_cons h, List.all_cons]
theorem len_parts (s : ByteArray) : (partsS s).length ≤ s.size + 1 := partsS_length s
set_option maxRecDepth 100000 in
set_option maxHeartbeats 2000000 in
theorem takesParts_any (s : ByteArray) (w : World) (hs : s.size ≤ 1073741824) (hM : MaxW w) (h2 : 6 < w.heap.size) :
    Calls Tryz.prog 57 #[.string s] w fun e w' => e = .returned (.bool (takesP s)) ∧ Below w.heap.size w w' := by
  have hp := (callsIn_wide (n := 8)).1 (parts_in 8 (by omega) s hs w)
  have hln := len_parts s
  obtain ⟨ps, hps⟩ : ∃ ps, partsS s = ps := ⟨_, rfl⟩
  have HT := hide (show takesP s = ps.all (fun q => decide (wrongD q = 0)) by unfold takesP; rw [hps])
  rw [hps] at hp hln
  clear hps
  go_enter Tryz.func57, Tryz.ntmps57
  go_wp2_with fail
  refine hp.mono ?_
  rintro e w1 ⟨v, rfl, hown, hb⟩
  have hrow := StrRow.of_owns hown
  clear hp hown
  have hM1 := hM.below h2 hb
  have h21 : 6 < w1.heap.size := Nat.lt_of_lt_of_le h2 hb.size
  obtain ⟨g, cap, rfl⟩ : ∃ a cap, v = .slice a ps.length cap := by
    rcases hrow with ⟨e, e2⟩ | ⟨g, cap, e, _⟩
    · subst e2; exact ⟨_, _, e⟩
    · exact ⟨_, _, e⟩
  have HR := hide hrow
  have HB := hide hb
  clear hrow hb
  go_wp2
  go_loopw [4, 8] (fun _ iv wr => ∃ (i : Nat), iv = .int .i64 (i : Int) ∧ i ≤ ps.length ∧ ps.all (fun q => decide (wrongD q = 0)) = (ps.drop i).all (fun q => decide (wrongD q = 0)) ∧ Below w1.heap.size w1 wr) (fun _ iv _ => ps.length - (intOf iv).toNat)
  case atStart => exact ⟨0, rfl, Nat.zero_le _, by rw [List.drop_zero], Below.refl _ _⟩
  case round =>
    obtain ⟨i, rfl, hi, hall, hbr⟩ := hrel
    have HALL := hide hall
    have HBR := hide hbr
    by_cases hlt : i < ps.length
    · have hiI : (i : Int) < (ps.length : Int) := by omega
      rcases HR.out with ⟨_, e⟩ | ⟨g', cap', e, hg, hcap, hx⟩
      · rw [e] at hlt; simp at hlt
      obtain ⟨rfl, rfl⟩ : g = some ⟨g', 0, none⟩ ∧ cap = cap' := by cases e; exact ⟨rfl, rfl⟩
      have hcell : wr.cell? ⟨g', i, none⟩ = some (.string (ps[i]'hlt)) := (hbr.cell (p := ⟨g', i, none⟩) hg).trans (hx i _ (List.getElem?_eq_getElem hlt))
      have htk := takes_any (ps[i]'hlt) wr (hM1.below h21 hbr) (Nat.lt_of_lt_of_le h21 hbr.size)
      have HD := hide (all_drop (fun q => decide (wrongD q = 0)) ps i hlt)
      obtain ⟨r, hr⟩ : ∃ r, decide (wrongD (ps[i]'hlt) = 0) = r := ⟨_, rfl⟩
      rw [hr] at htk HD
      clear hr hall hbr e
      cases r with
      | false =>
        go_wp2_with (go_at_call 43; refine htk.mono ?_; rintro e w2 ⟨rfl, hb2⟩)
        go_ret
        refine ⟨?_, HB.out.trans ((HBR.out.trans (hb2.mono HBR.out.size)).mono HB.out.size)⟩
        have e1 := HT.out
        have e2 := HALL.out
        have e3 := HD.out
        rw [e1, e2, e3]
        rfl
      | true =>
        go_wp2_with (go_at_call 43; refine htk.mono ?_; rintro e w2 ⟨rfl, hb2⟩)
        go_roundw
        case rel => exact ⟨i + 1, by go_num, by omega, by rw [HALL.out, HD.out]; simp, HBR.out.trans (hb2.mono HBR.out.size)⟩
        case measure => simp [intOf]; omega
    · have hie : i = ps.length := by omega
      subst hie
      have hiI : ¬ ((ps.length : Int) < (ps.length : Int)) := by omega
      clear hall hbr
      go_wp2
      go_ret
      refine ⟨?_, HB.out.trans (HBR.out.mono HB.out.size)⟩
      rw [HT.out, HALL.out, List.drop_length]
      rfl
end Go.Proofs.YtjbdoeoimodhkaaGreatDoor
/- readLine. -/
namespace Go.Proofs.YtjbdoeoimodhkaaGreatDoor
open Go.RowKit Go.Maps

/-- A rule. -/
structure RuleD where
  nt : Bool
  dr : Bool
  fx : Bool
  pt : ByteArray
def noRule : RuleD := ⟨false, false, false, ⟨#[]⟩⟩
def ruleV (r : RuleD) : Value := .agg #[.bool r.nt, .bool r.dr, .bool r.fx, .string r.pt]
def lineOf (l : List UInt8) : RuleD := ⟨Lib.hasPrefix l [33], Lib.hasSuffix (Lib.trimPrefix l [33]) [47], decide (0 ≤ Lib.indexByte (Lib.trimSuffix (Lib.trimPrefix l [33]) [47]) 47), bs (Lib.trimPrefix (Lib.trimSuffix (Lib.trimPrefix l [33]) [47]) [47])⟩
/-- What a line says, if it says anything. -/
def lineR (s : ByteArray) : Option RuleD :=
  if Lib.hasPrefix (cutBlanksL s.data.toList) [35] = true then none
  else if (lineOf (cutBlanksL s.data.toList)).pt.toList = [] ∨ takesP (lineOf (cutBlanksL s.data.toList)).pt = false then none
  else some (lineOf (cutBlanksL s.data.toList))
def lineV (o : Option RuleD) : Value := match o with
  | none => .tuple #[ruleV noRule, .bool false]
  | some r => .tuple #[ruleV r, .bool true]
theorem Tryz.zero75 (w : World) : (zeroValue 75).run Tryz.prog w = .ok (.agg #[.bool false, .bool false, .bool false, .string ⟨#[]⟩]) w := by kernel_rfl
def RBox (W : World) (z : Nat) (r : RuleD) : Prop := W.heap[z]? = some (.cells #[.bool r.nt, .bool r.dr, .bool r.fx, .string r.pt] 75 (0, 0))
theorem RBox.cells {W : World} {z : Nat} {r : RuleD} (h : RBox W z r) : W.cell? ⟨z, 0, none⟩ = some (.bool r.nt) ∧ W.cell? ⟨z, 1, none⟩ = some (.bool r.dr) ∧ W.cell? ⟨z, 2, none⟩ = some (.bool r.fx) ∧ W.cell? ⟨z, 3, none⟩ = some (.string r.pt) ∧ ∀ j, W.frozen? ⟨z, j, none⟩ = false := by
  unfold RBox at h
  simp [World.cell?, World.frozen?, h]
theorem rset4 {W : World} {z : Nat} {r0 : RuleD} (h : RBox W z r0) (r : RuleD) : RBox ((((W.setCell ⟨z, 0, none⟩ (.bool r.nt)).setCell ⟨z, 1, none⟩ (.bool r.dr)).setCell ⟨z, 2, none⟩ (.bool r.fx)).setCell ⟨z, 3, none⟩ (.string r.pt)) z r ∧ ∀ k, k ≠ z → ((((W.setCell ⟨z, 0, none⟩ (.bool r.nt)).setCell ⟨z, 1, none⟩ (.bool r.dr)).setCell ⟨z, 2, none⟩ (.bool r.fx)).setCell ⟨z, 3, none⟩ (.string r.pt)).heap[k]? = W.heap[k]? := by
  have st : ∀ (V : World) (cs : Array Value) (j : Nat) (v : Value), V.heap[z]? = some (.cells cs 75 (0, 0)) → (V.setCell ⟨z, j, none⟩ v).heap[z]? = some (.cells (cs.set! j v) 75 (0, 0)) := by
    intro V cs j v hV
    obtain ⟨hlt, hk⟩ := Array.getElem?_eq_some_iff.1 hV
    show (V.heap.modify z _)[z]? = _
    rw [Array.getElem?_eq_getElem (by rw [Array.size_modify]; exact hlt), Array.getElem_modify_self, hk]
    rfl
  have ot : ∀ (V : World) (j : Nat) (v : Value) (k : Nat), k ≠ z → (V.setCell ⟨z, j, none⟩ v).heap[k]? = V.heap[k]? := by
    intro V j v k hk
    show (V.heap.modify z _)[k]? = _
    rw [Array.getElem?_modify, if_neg (fun e => hk e.symm)]
  refine ⟨st _ _ 3 _ (st _ _ 2 _ (st _ _ 1 _ (st _ _ 0 _ h))), fun k hk => ?_⟩
  rw [ot _ _ _ k hk, ot _ _ _ k hk, ot _ _ _ k hk, ot _ _ _ k hk]
theorem set_other (W : World) (z j : Nat) (v : Value) {k : Nat} (hk : k ≠ z) : (W.setCell ⟨z, j, none⟩ v).heap[k]? = W.heap[k]? := by
  show (W.heap.modify z _)[k]? = _
  rw [Array.getElem?_modify, if_neg (fun e => hk e.symm)]
theorem rset3 {W : World} {z : Nat} {r0 : RuleD} (h : RBox W z r0) (r : RuleD) : RBox (((W.setCell ⟨z, 0, none⟩ (.bool r.nt)).setCell ⟨z, 1, none⟩ (.bool r.dr)).setCell ⟨z, 2, none⟩ (.bool r.fx)) z ⟨r.nt, r.dr, r.fx, r0.pt⟩ := by
  have st : ∀ (V : World) (cs : Array Value) (j : Nat) (v : Value), V.heap[z]? = some (.cells cs 75 (0, 0)) → (V.setCell ⟨z, j, none⟩ v).heap[z]? = some (.cells (cs.set! j v) 75 (0, 0)) := by
    intro V cs j v hV
    obtain ⟨hlt, hk⟩ := Array.getElem?_eq_some_iff.1 hV
    show (V.heap.modify z _)[z]? = _
    rw [Array.getElem?_eq_getElem (by rw [Array.size_modify]; exact hlt), Array.getElem_modify_self, hk]
    rfl
  exact st _ _ 2 _ (st _ _ 1 _ (st _ _ 0 _ h))
theorem below_out {B : Nat} {w W W' : World} (h : Below B w W) (hos : W'.os = W.os) (ht : W'.tape = W.tape) (ho : W'.output = W.output) (hsz : W.heap.size ≤ W'.heap.size) (hb : ∀ k, k < B → W'.heap[k]? = W.heap[k]?) : Below B w W' :=
  ⟨hos.trans h.os, ht.trans h.tape, ho.trans h.output, Nat.le_trans h.size hsz, fun k hk => (hb k hk).trans (h.block k hk)⟩
theorem rule_ret {W : World} {a : Act} {z : Nat} {r : RuleD} {b : Bool} {R : Ending → World → Prop} (h : RBox W z r) (h2 : a.tmps[2]? = some (.pointer (some ⟨z, 0, none⟩))) (h3 : a.tmps[3]? = some (.bool b)) (hd : a.defers = []) (hR : R (.returned (.tuple #[ruleV r, .bool b])) W) : bodyPost Tryz.prog Tryz.f39 R .ret a W := by
  obtain ⟨c0, c1, c2, c3, _⟩ := h.cells
  refine bodyPost_ret (v := .tuple #[ruleV r, .bool b]) ?_ hd hR
  simp [results, Tryz.results39, go_sem, h2, h3, c0, c1, c2, c3, ruleV]
theorem trimP_len (l p : List UInt8) : (Lib.trimPrefix l p).length ≤ l.length := by unfold Lib.trimPrefix; split <;> simp
theorem trimS_len (l p : List UInt8) : (Lib.trimSuffix l p).length ≤ l.length := by unfold Lib.trimSuffix; split <;> simp <;> omega
theorem blanks_len (l : List UInt8) : (cutBlanksL l).length ≤ l.length := by
  unfold cutBlanksL
  split
  · rw [List.length_take]; omega
  · exact trim_len _ _
set_option maxRecDepth 100000 in
set_option maxHeartbeats 4000000 in
theorem readLine_any (s : ByteArray) (w : World) (hs : s.size ≤ 1073741824) (hM : MaxW w) (h2 : 6 < w.heap.size) :
    Calls Tryz.prog 39 #[.string s] w fun e w' => e = .returned (lineV (lineR s)) ∧ Below w.heap.size w w' := by
  have hsl := size_list s
  have h14 : ∀ w, Calls Tryz.prog 51 #[.string s] w fun e w' => e = .returned (.string (bs (cutBlanksL s.data.toList))) ∧ w' = w := fun w => cutBlanks_any s w hs
  have hcl := blanks_len s.data.toList
  rw [hsl] at hcl
  obtain ⟨l, hl⟩ : ∃ l, cutBlanksL s.data.toList = l := ⟨_, rfl⟩
  have HL := hide (show lineR s = if Lib.hasPrefix l [35] = true then none else if (lineOf l).pt.toList = [] ∨ takesP (lineOf l).pt = false then none else some (lineOf l) by unfold lineR; rw [hl])
  rw [hl] at h14 hcl
  clear hl
  have h15 : ∀ w, Calls Tryz.prog 52 #[.string (bs l), .string ⟨#[35]⟩] w fun e w' => e = .returned (.bool (Lib.hasPrefix l [35])) ∧ w' = w := fun w => Tryz.strings_HasPrefix (bs l) ⟨#[35]⟩ w
  have h16 : ∀ w, Calls Tryz.prog 53 #[.string (bs l), .string ⟨#[33]⟩] w fun e w' => e = .returned (.tuple #[.string (bs (Lib.trimPrefix l [33])), .bool (lineOf l).nt]) ∧ w' = w := fun w => Tryz.strings_CutPrefix (bs l) ⟨#[33]⟩ w
  have h17 : ∀ w, Calls Tryz.prog 54 #[.string (bs (Lib.trimPrefix l [33])), .string ⟨#[47]⟩] w fun e w' => e = .returned (.tuple #[.string (bs (Lib.trimSuffix (Lib.trimPrefix l [33]) [47])), .bool (lineOf l).dr]) ∧ w' = w := fun w => Tryz.strings_CutSuffix (bs (Lib.trimPrefix l [33])) ⟨#[47]⟩ w (by have := trimP_len l [33]; show (⟨_⟩ : ByteArray).size ≤ _; rw [bs_size]; omega)
  have h18 : ∀ w, Calls Tryz.prog 55 #[.string (bs (Lib.trimSuffix (Lib.trimPrefix l [33]) [47])), .string ⟨#[47]⟩] w fun e w' => e = .returned (.bool (lineOf l).fx) ∧ w' = w := fun w => Tryz.strings_Contains_one (bs (Lib.trimSuffix (Lib.trimPrefix l [33]) [47])) 47 w
  have h19 : ∀ w, Calls Tryz.prog 56 #[.string (bs (Lib.trimSuffix (Lib.trimPrefix l [33]) [47])), .string ⟨#[47]⟩] w fun e w' => e = .returned (.string (lineOf l).pt) ∧ w' = w := fun w => Tryz.strings_TrimPrefix (bs (Lib.trimSuffix (Lib.trimPrefix l [33]) [47])) ⟨#[47]⟩ w
  have hpz : (lineOf l).pt.size ≤ 1073741824 := by
    show (⟨_⟩ : ByteArray).size ≤ _
    rw [bs_size]
    have a := trimP_len (Lib.trimSuffix (Lib.trimPrefix l [33]) [47]) [47]
    have b := trimS_len (Lib.trimPrefix l [33]) [47]
    have c := trimP_len l [33]
    omega
  obtain ⟨r, hr⟩ : ∃ r, lineOf l = r := ⟨_, rfl⟩
  rw [hr] at HL h16 h17 h18 h19 hpz
  obtain ⟨L, hL⟩ : ∃ L, bs l = L := ⟨_, rfl⟩
  obtain ⟨L1, hL1⟩ : ∃ L1, bs (Lib.trimPrefix l [33]) = L1 := ⟨_, rfl⟩
  obtain ⟨L2, hL2⟩ : ∃ L2, bs (Lib.trimSuffix (Lib.trimPrefix l [33]) [47]) = L2 := ⟨_, rfl⟩
  rw [hL] at h14 h15 h16
  rw [hL1] at h16 h17
  rw [hL2] at h17 h18 h19
  clear hL hL1 hL2 hr
  obtain ⟨b35, hb35⟩ : ∃ b, Lib.hasPrefix l [35] = b := ⟨_, rfl⟩
  rw [hb35] at HL h15
  clear hb35
  have hbox := World.alloc_heap_new w (.cells #[.bool false, .bool false, .bool false, .string ⟨#[]⟩] 75)
  have hal : Below w.heap.size w (w.alloc (.cells #[.bool false, .bool false, .bool false, .string ⟨#[]⟩] 75)) := (Below.refl _ _).alloc (Nat.le_refl _) _
  obtain ⟨W1, hW1⟩ : ∃ W1, w.alloc (.cells #[.bool false, .bool false, .bool false, .string ⟨#[]⟩] 75) = W1 := ⟨_, rfl⟩
  rw [hW1] at hbox hal
  have hs1 : W1.heap.size = w.heap.size + 1 := by rw [← hW1, World.size_alloc]
  have hR1 : RBox W1 w.heap.size noRule := hbox
  obtain ⟨c0, c1, c2, c3, cf⟩ := hR1.cells
  have f0 := cf 0
  have f1 := cf 1
  have f2 := cf 2
  have f3 := cf 3
  have HX := hide (⟨hR1, hal, hs1⟩ : _ ∧ _ ∧ _)
  clear hbox hR1 hal hs1 cf
  cases b35 with
  | true =>
    go_enter Tryz.func39, Tryz.ntmps39
    go_wp2_with first
      | (go_at_call 51; refine (h14 _).mono ?_; rintro e w' ⟨rfl, hw⟩; rw [hw]; clear hw)
      | (go_at_call 52; refine (h15 _).mono ?_; rintro e w' ⟨rfl, hw⟩; rw [hw]; clear hw)
    obtain ⟨hR1, hal, hs1⟩ := HX.out
    obtain ⟨hR2, ho2⟩ := rset4 hR1 noRule
    refine rule_ret hR2 rfl rfl rfl ⟨?_, below_out hal rfl rfl rfl (by simp only [set_size]; exact Nat.le_refl _) (fun k hk => ho2 k (by omega))⟩
    rw [HL.out, if_pos trivial]
    rfl
  | false =>
    have hR1 := HX.out.1
    have hal := HX.out.2.1
    have hs1 := HX.out.2.2
    have hR2 : RBox (W1.alloc (.cells #[.bool false, .bool false, .bool false, .string ⟨#[]⟩] 75)) W1.heap.size noRule := World.alloc_heap_new W1 (.cells #[.bool false, .bool false, .bool false, .string ⟨#[]⟩] 75)
    have hR12 : RBox (W1.alloc (.cells #[.bool false, .bool false, .bool false, .string ⟨#[]⟩] 75)) w.heap.size noRule := (Below.heap_alloc _ _ _ (by omega)).trans hR1
    have hal2 : Below w.heap.size w (W1.alloc (.cells #[.bool false, .bool false, .bool false, .string ⟨#[]⟩] 75)) := hal.alloc hal.size _
    have hs2 : (W1.alloc (.cells #[.bool false, .bool false, .bool false, .string ⟨#[]⟩] 75)).heap.size = w.heap.size + 2 := by rw [World.size_alloc, hs1]
    obtain ⟨W2, hW2⟩ : ∃ W2, W1.alloc (.cells #[.bool false, .bool false, .bool false, .string ⟨#[]⟩] 75) = W2 := ⟨_, rfl⟩
    rw [hW2] at hR2 hR12 hal2 hs2
    obtain ⟨e0, e1, e2, e3, ef⟩ := hR2.cells
    have g0 := ef 0
    have g1 := ef 1
    have g2 := ef 2
    have g3 := ef 3
    have HY := hide (⟨hR2, hR12, hal2, hs2⟩ : _ ∧ _ ∧ _ ∧ _)
    have hlt1 : w.heap.size < W1.heap.size := by omega
    have HS1 := hide hs1
    clear hR1 hal hR2 hR12 hal2 hs2 ef hs1 c0 c1 c2 c3 f0 f1 f2 f3
    go_enter Tryz.func39, Tryz.ntmps39
    go_wp2_with fail
    refine (h14 _).mono ?_
    rintro e w' ⟨rfl, hw⟩
    rw [hw]
    clear hw
    go_wp2_with fail
    refine (h15 _).mono ?_
    rintro e w' ⟨rfl, hw⟩
    rw [hw]
    clear hw
    go_wp2_with fail
    refine (h16 _).mono ?_
    rintro e w' ⟨rfl, hw⟩
    rw [hw]
    clear hw
    go_wp2_with fail
    refine (h17 _).mono ?_
    rintro e w' ⟨rfl, hw⟩
    rw [hw]
    clear hw
    go_wp2_with fail
    refine (h18 _).mono ?_
    rintro e w' ⟨rfl, hw⟩
    rw [hw]
    clear hw
    go_wp2_with fail
    refine (h19 _).mono ?_
    rintro e w' ⟨rfl, hw⟩
    rw [hw]
    clear hw
    obtain ⟨W5, hW5⟩ : ∃ W5, ((W2.setCell ⟨W1.heap.size, 0, none⟩ (.bool r.nt)).setCell ⟨W1.heap.size, 1, none⟩ (.bool r.dr)).setCell ⟨W1.heap.size, 2, none⟩ (.bool r.fx) = W5 := ⟨_, rfl⟩
    rw [hW5]
    have hR35 := rset3 HY.out.1 r
    rw [hW5] at hR35
    have k3 : W5.cell? ⟨W1.heap.size, 3, none⟩ = some (.string ⟨#[]⟩) := hR35.cells.2.2.2.1
    have kf : W5.frozen? ⟨W1.heap.size, 3, none⟩ = false := hR35.cells.2.2.2.2 3
    clear hR35
    obtain ⟨hR6, ho6⟩ := rset4 HY.out.1 r
    rw [hW5] at hR6 ho6
    have hal6 : Below w.heap.size w (W5.setCell ⟨W1.heap.size, 3, none⟩ (.string r.pt)) := by
      refine below_out HY.out.2.2.1 ?_ ?_ ?_ ?_ (fun k hk => ho6 k (by omega))
      · rw [← hW5]; rfl
      · rw [← hW5]; rfl
      · rw [← hW5]; rfl
      · rw [← hW5, set_size, set_size, set_size, set_size]; exact Nat.le_refl _
    have hR06 : RBox (W5.setCell ⟨W1.heap.size, 3, none⟩ (.string r.pt)) w.heap.size noRule := (ho6 _ (by omega)).trans HY.out.2.1
    have hs6 : (W5.setCell ⟨W1.heap.size, 3, none⟩ (.string r.pt)).heap.size = w.heap.size + 2 := by rw [← hW5, set_size, set_size, set_size, set_size]; exact HY.out.2.2.2
    have hR05 : RBox W5 w.heap.size noRule := by
      have : W5.heap[w.heap.size]? = W2.heap[w.heap.size]? := by
        rw [← ho6 _ (show w.heap.size ≠ W1.heap.size by omega)]
        rw [set_other _ _ _ _ (by omega)]
      exact this.trans HY.out.2.1
    obtain ⟨p0, p1, p2, p3, pf⟩ := hR05.cells
    have q0 := pf 0
    have q1 := pf 1
    have q2 := pf 2
    have q3 := pf 3
    have hne : ¬ w.heap.size = W1.heap.size := by omega
    have hne' : ¬ W1.heap.size = w.heap.size := by omega
    have HZ := hide (⟨hR6, hal6, hR06, hs6⟩ : _ ∧ _ ∧ _ ∧ _)
    clear hW5 hR6 ho6 hal6 hR06 hs6 e0 e1 e2 e3 g0 g1 g2 g3 hR05 pf
    cases hE : r.pt.toList.isEmpty with
    | true =>
      go_wp2_with fail
      obtain ⟨hR6, hal6, hR06, hs6⟩ := HZ.out
      obtain ⟨hR7, ho7⟩ := rset4 hR06 noRule
      refine rule_ret hR7 rfl rfl rfl ⟨?_, below_out hal6 rfl rfl rfl (by simp only [set_size]; exact Nat.le_refl _) (fun k hk => ho7 k (by omega))⟩
      have : r.pt.toList = [] := List.isEmpty_iff.1 hE
      rw [HL.out, if_neg (by decide), if_pos (.inl this)]
      rfl
    | false =>
      go_wp2_with fail
      obtain ⟨hR6, hal6, hR06, hs6⟩ := HZ.out
      obtain ⟨W6, hW6⟩ : ∃ W6, W5.setCell ⟨W1.heap.size, 3, none⟩ (.string r.pt) = W6 := ⟨_, rfl⟩
      rw [hW6] at hR6 hal6 hR06 hs6
      rw [hW6]
      have htp := takesParts_any r.pt W6 hpz (hM.below h2 hal6) (Nat.lt_of_lt_of_le h2 hal6.size)
      have HLT := hide (show W1.heap.size < W6.heap.size by have := HS1.out; omega)
      have HZ6 := hide (⟨hR6, hal6, hR06, hs6⟩ : _ ∧ _ ∧ _ ∧ _)
      clear hW6 k3 kf p0 p1 p2 p3 q0 q1 q2 q3 hR6 hal6 hR06 hs6
      have hEn : ¬ r.pt.toList = [] := fun e => by rw [e] at hE; cases hE
      obtain ⟨t, ht⟩ : ∃ t, takesP r.pt = t := ⟨_, rfl⟩
      rw [ht] at htp HL
      clear ht
      refine htp.mono ?_
      rintro e W7 ⟨rfl, hb7⟩
      obtain ⟨hR6, hal6, hR06, hs6⟩ := HZ6.out
      have hR7 : RBox W7 W1.heap.size r := (hb7.block _ HLT.out).trans hR6
      have hR07 : RBox W7 w.heap.size noRule := (hb7.block _ (by omega)).trans hR06
      have hal7 : Below w.heap.size w W7 := hal6.trans (hb7.mono hal6.size)
      obtain ⟨k0, k1, k2, k3, kf⟩ := hR7.cells
      obtain ⟨p0, p1, p2, p3, pf⟩ := hR07.cells
      have q0 := pf 0
      have q1 := pf 1
      have q2 := pf 2
      have q3 := pf 3
      have HV := hide (⟨hR07, hal7⟩ : _ ∧ _)
      clear hR6 hal6 hR06 hs6 hR7 hR07 hal7 pf kf hb7 HZ6 HZ HY HX
      cases t with
      | false =>
        go_wp2_with fail
        obtain ⟨hR07, hal7⟩ := HV.out
        obtain ⟨hR8, ho8⟩ := rset4 hR07 noRule
        refine rule_ret hR8 rfl rfl rfl ⟨?_, below_out hal7 rfl rfl rfl (by simp only [set_size]; exact Nat.le_refl _) (fun k hk => ho8 k (by omega))⟩
        rw [HL.out, if_neg (by decide), if_pos (by simp)]
        rfl
      | true =>
        go_wp2_with fail
        obtain ⟨hR07, hal7⟩ := HV.out
        obtain ⟨hR8, ho8⟩ := rset4 hR07 r
        refine rule_ret hR8 rfl rfl rfl ⟨?_, below_out hal7 rfl rfl rfl (by simp only [set_size]; exact Nat.le_refl _) (fun k hk => ho8 k (by omega))⟩
        rw [HL.out, if_neg (by decide), if_neg (by rintro (h | h); exact hEn h; cases h)]
        rfl
end Go.Proofs.YtjbdoeoimodhkaaGreatDoor
/- ignore.Read: the rules of a text. -/
namespace Go.Proofs.YtjbdoeoimodhkaaGreatDoor
open Go.RowKit Go.Maps Go.Shelf
attribute [local go_sem] Oper.semAt_some

def ruleL (r : RuleD) : List Value := [.bool r.nt, .bool r.dr, .bool r.fx, .string r.pt]
def rulesL (rs : List RuleD) : List Value := rs.flatMap ruleL
theorem rulesL_snoc (rs : List RuleD) (r : RuleD) : rulesL (rs ++ [r]) = rulesL rs ++ ruleL r := by simp [rulesL]
/-- The rules of a text. -/
def rulesOf (s : ByteArray) : List RuleD := (cutS 10 s).filterMap lineR
theorem Tryz.info28r : (Tryz.prog.info? 75).map (fun i => (i.zero, i.size, i.bytes)) = some (some (.agg #[.bool false, .bool false, .bool false, .string ⟨#[]⟩]), 4, 24) := by kernel_rfl
theorem Tryz.underlying22r : Tryz.prog.underlying 48 = some (.slice 75) := by kernel_rfl
theorem row_notG {B n k e z : Nat} {W : World} {v : Value} {xs : List Value} (h : W.ownsRow B e z v n xs) (hk : k < B) : some k ≠ v.ownBlock := by
  intro e
  have := (h.lt k e.symm).1
  omega
theorem owns_baseG {B B' n e z : Nat} {W : World} {v : Value} {xs : List Value} (hB : B ≤ B') (h : W.ownsRow B' e z v n xs) : W.ownsRow B e z v n xs := by
  refine ⟨h.1, ?_⟩
  rcases h.2 with h2 | ⟨g, cap, cur, e, hb, r⟩
  · exact .inl h2
  · exact .inr ⟨g, cap, cur, e, by omega, r⟩
theorem keepsFrom_below {B : Nat} {W W' : World} (h : Below W.heap.size W W') : KeepsFrom B W W' := ⟨h.size, fun k _ _ hk _ => (h.block k (Array.getElem?_eq_some_iff.1 hk).1).trans hk⟩
/-- What one 'rules = append(rules, r)' does. -/
theorem push_rule {W w1 : World} {b0 : Nat} {v v' : Value} {k m : Nat} {xs ys : List Value} {tmp : Obj} (hsz : b0 + 4 ≤ W.heap.size)
    (hv : Boxed W b0 48 v) (hrow : W.ownsRow (b0 + 4) 75 4 v k xs) (hown' : w1.ownsRow (b0 + 4) 75 4 v' m ys) (hgrow : (W.alloc tmp).grownBy w1 v.ownBlock) :
    Boxed w1 b0 48 v ∧ Boxed (w1.setCell ⟨b0, 0, none⟩ v') b0 48 v' ∧ (w1.setCell ⟨b0, 0, none⟩ v').ownsRow (b0 + 4) 75 4 v' m ys ∧ KeepsOthers W (w1.setCell ⟨b0, 0, none⟩ v') ∧ Below b0 W (w1.setCell ⟨b0, 0, none⟩ v') ∧ Ten.KeepBoxes (b0 + 1) (b0 + 2) (b0 + 3) W (w1.setCell ⟨b0, 0, none⟩ v') := by
  obtain ⟨a1, a2, _, a4, a5⟩ := hv.appended (by decide) (owns_baseG (by omega) hrow) (show b0 ≤ W.heap.size by omega) (Nat.le_refl _) (owns_baseG (B := b0) (by omega) hown') hgrow
  refine ⟨a1, a2, hown'.kept (grownBy_setCell' w1 b0 v') (.inr (row_notG hown' (by omega)).symm), a4, a5, ?_⟩
  intro j hj
  have hj1 : b0 < j ∧ j < b0 + 4 := by omega
  have e1 := (grownBy_setCell' w1 b0 v').block j (by have := hgrow.size; simp at this; omega) (by simp; omega)
  have e2 := hgrow.block j (by simp; omega) (row_notG hrow hj1.2)
  rw [e1, e2]
  exact (World.grownBy_alloc W tmp none).block j (by omega) (by simp)
theorem cut_size {s x : ByteArray} {c : UInt8} {pre r : List ByteArray} (h : cutS c s = pre ++ x :: r) : x.size ≤ s.size := by
  have hm : x ∈ cutS c s := by rw [h]; simp
  unfold cutS at hm
  obtain ⟨p, hp, rfl⟩ := List.mem_map.1 hm
  have key : ∀ (l p : List UInt8), p ∈ splitL c l → p.length ≤ l.length := by
    intro l
    induction l with
    | nil => intro p hp; simp [splitL] at hp; subst hp; simp
    | cons y t ih =>
      intro p hp
      by_cases hy : y = c
      · subst hy
        rw [split_same] at hp
        rcases List.mem_cons.1 hp with rfl | hp
        · simp
        · have := ih p hp; simp; omega
      · obtain ⟨q, qs, e1, e2⟩ := split_other c y t hy
        rw [e2] at hp
        rcases List.mem_cons.1 hp with rfl | hp
        · have := ih q (by rw [e1]; simp); simp; omega
        · have := ih p (by rw [e1]; simp [hp]); simp; omega
  have := key _ p hp
  show (⟨p.toArray⟩ : ByteArray).size ≤ _
  rw [bs_size, ← size_list s]
  exact this
theorem fm_none {pre : List ByteArray} {x : ByteArray} (h : lineR x = none) : (pre ++ [x]).filterMap lineR = pre.filterMap lineR := by simp [h]
theorem fm_some {pre : List ByteArray} {x : ByteArray} {r : RuleD} (h : lineR x = some r) : (pre ++ [x]).filterMap lineR = pre.filterMap lineR ++ [r] := by simp [h]
set_option maxRecDepth 100000 in
set_option maxHeartbeats 2000000 in
theorem read_in (n : Nat) (hn : 8 ≤ n) (s : ByteArray) (hs : s.size ≤ 1073741824) (w : World) (hM : MaxW w) (h2 : 6 < w.heap.size) :
    CallsIn Fence.wide n Tryz.prog 28 #[.string s] w fun e W' => ∃ v, e = .returned v ∧ W'.ownsRow w.heap.size 75 4 v (rulesOf s).length (rulesL (rulesOf s)) ∧ Below w.heap.size w W' := by
  have h1 : 1 ≤ n := by omega
  have hcl := cutS_length 10 s
  obtain ⟨i0, hi, hz0, hz1, hz2⟩ := info_parts Tryz.info28r
  refine callsIn_of_wp_marks Tryz.func28 rfl trivial ?_ rfl
  simp only [Tryz.ntmps28, List.size_toArray, List.length_cons, List.length_nil, Nat.reduceAdd, Nat.reduceSub, Array.replicate_succ, Array.replicate_zero, List.push_toArray, List.append_toArray, List.nil_append, List.cons_append]
  gi_wp2_with (refine ⟨trivial, ?_⟩; gi_at_call 38; refine (Ten.SplitSeq_in (n - 1) (by omega) _ _ _).mono ?_; rintro e w' ⟨rfl, rfl⟩)
  obtain ⟨w4, hw4⟩ : ∃ w4, (((w.alloc (.cells #[.slice none 0 0] 48)).alloc (.cells #[.string s] 9)).alloc (.cells #[.string ⟨#[10]⟩] 9)).alloc (.cells #[.int .i64 0] 3) = w4 := ⟨_, rfl⟩
  rw [hw4]
  have bO : Boxed w4 w.heap.size 48 (.slice none 0 0) := by rw [← hw4]; exact (((Boxed.new w 48 (.slice none 0 0)).alloc _).alloc _).alloc _
  have bS : Boxed w4 (w.heap.size + 1) 9 (.string s) := by
    rw [← hw4]
    have := Boxed.new (w.alloc (.cells #[.slice none 0 0] 48)) 9 (.string s)
    rw [World.size_alloc] at this
    exact (this.alloc _).alloc _
  have bP : Boxed w4 (w.heap.size + 2) 9 (.string ⟨#[10]⟩) := by
    rw [← hw4]
    have := Boxed.new ((w.alloc (.cells #[.slice none 0 0] 48)).alloc (.cells #[.string s] 9)) 9 (.string ⟨#[10]⟩)
    rw [World.size_alloc, World.size_alloc] at this
    exact this.alloc _
  have bQ : Boxed w4 (w.heap.size + 3) 3 (.int .i64 0) := by
    rw [← hw4]
    have := Boxed.new (((w.alloc (.cells #[.slice none 0 0] 48)).alloc (.cells #[.string s] 9)).alloc (.cells #[.string ⟨#[10]⟩] 9)) 3 (.int .i64 0)
    rw [World.size_alloc, World.size_alloc, World.size_alloc] at this
    exact this
  have hB0 : Below w.heap.size w w4 := by
    rw [← hw4]; exact ((((Below.refl _ w).alloc (Nat.le_refl _) _).alloc (by simp) _).alloc (by simp; omega) _).alloc (by simp; omega) _
  have hsz4 : w4.heap.size = w.heap.size + 4 := by rw [← hw4]; simp
  clear hw4
  refine Ten.wpIn_range_boxS rfl h1 (gf := 69) (lb := #[.pointer (some ⟨w.heap.size + 2, 0, none⟩), .pointer (some ⟨w.heap.size + 1, 0, none⟩), .pointer (some ⟨w.heap.size + 3, 0, none⟩)]) rfl trivial (enters_of Tryz.func69 (by kernel_rfl) rfl)
    (bx := w.heap.size + 1) (by omega) (Ten.split_seqS (n - 1) (by omega) (w.heap.size + 1) (w.heap.size + 2) (w.heap.size + 3) (by omega) (by omega) s hs w4 bS bP bQ)
    (fun {A B C} h k j hj => (k j hj).trans (h j hj)) (fun W l o o' hl _ j hj => World.putObj_heap_other (by omega)) (fun _ => rfl)
    (fun (pre : List ByteArray) W => (∃ v, Boxed W w.heap.size 48 v ∧ W.ownsRow (w.heap.size + 4) 75 4 v (pre.filterMap lineR).length (rulesL (pre.filterMap lineR)) ∧ True) ∧ Below w.heap.size w W ∧ w.heap.size + 4 ≤ W.heap.size)
    (fun _ _ _ => False)
    (OwnFrom.and (Own.from (holdsRow_own (w.heap.size + 4) w.heap.size 48 75 4 (fun pre : List ByteArray => (pre.filterMap lineR).length) (fun pre : List ByteArray => rulesL (pre.filterMap lineR)) (fun _ _ => True)) _) (OwnFrom.and (ownFrom_below (Nat.le_refl _) (by omega)) (fun _ _ _ _ hs hg _ => Nat.le_trans hs hg.size)))
    (fun _ _ _ _ _ h _ _ => h)
    (fun p A v hs => by
      obtain ⟨⟨u, hu, hr, _⟩, hB, hz⟩ := hs
      exact ⟨⟨u, hu.kept (grownBy_setCell' A (w.heap.size + 1) v) (fun e => by have := Option.some.inj e; omega), hr.kept (grownBy_setCell' A (w.heap.size + 1) v) (.inr (row_notG hr (by omega)).symm), trivial⟩, hB.setCell (p := ⟨w.heap.size + 1, 0, none⟩) (by show w.heap.size ≤ w.heap.size + 1; omega) _, Nat.le_trans hz (grownBy_setCell' A (w.heap.size + 1) v).size⟩)
    ⟨⟨_, bO, World.ownsRow_nil _ _ _ _, trivial⟩, hB0, by omega⟩
    (fun x => { tmps := #[.string s, undef, .slice none 0 0, .pointer (some ⟨w.heap.size, 0, none⟩), .string x, undef, undef, .string s, .func (.func 69) #[] #[.pointer (some ⟨w.heap.size + 2, 0, none⟩), .pointer (some ⟨w.heap.size + 1, 0, none⟩), .pointer (some ⟨w.heap.size + 3, 0, none⟩)], .string x, undef, undef, undef, undef, undef, undef, undef, undef, undef, undef, undef], defers := [] }) ?assign ?body ?done ?stop
  case assign =>
    intro l x W K hK
    gi_wp2
    exact hK
  case stop =>
    intro D c pre W _ _ h
    exact h.elim
  case body =>
    rintro l pre x W ⟨⟨v, hv, hrow, _⟩, hB, hWs⟩ ⟨rest, hcut⟩
    have hxs := cut_size hcut
    have hpl : (pre.filterMap lineR).length ≤ pre.length := List.length_filterMap_le _ _
    have hpb : pre.length ≤ s.size := by rw [hcut] at hcl; simp at hcl; omega
    have hrl := readLine_any x W (by omega) (hM.below h2 hB) (by omega)
    have h11 : 1 ≤ n - 1 - 1 := by omega
    have HRL := hide hrl
    cases ho : lineR x with
    | none =>
      rw [ho] at HRL
      have HFM := hide (fm_none (pre := pre) ho)
      have HALL := hide (⟨hv, hrow, hB, hWs⟩ : _ ∧ _ ∧ _ ∧ _)
      clear hv hrow hB hWs hcut hxs hpl hpb hrl ho
      gi_wp2_with (refine ⟨trivial, ?_⟩; gi_at_call 39; refine (CallsIn.inRound l (callsIn_wide.2 HRL.out)).mono ?_; rintro e W2 ⟨rfl, hb2⟩; simp only [lineV, ruleV, noRule])
      obtain ⟨hv, hrow, hB, hWs⟩ := HALL.out
      have hb3 : Below W.heap.size W (W2.alloc (.cells #[.bool false, .bool false, .bool false, .string ⟨#[]⟩] 75)) := hb2.alloc hb2.size _
      exact ⟨keepsFrom_below hb3, fun j hj => hb3.block j (by omega), ⟨v, (hb3.block _ hv.lt).trans hv, by rw [HFM.out]; exact row_keep hrow (fun k c hk _ => (hb3.block k (Array.getElem?_eq_some_iff.1 hk).1).trans hk), trivial⟩, hB.trans (hb3.mono hB.size), Nat.le_trans hWs hb3.size⟩
    | some r =>
      rw [ho] at HRL
      have HFM := hide (fm_some (pre := pre) ho)
      have HALL := hide (⟨hv, hrow, hB, hWs⟩ : _ ∧ _ ∧ _ ∧ _)
      clear hcut hxs hrl ho hv hrow hB hWs
      gi_wp2_with first
        | (refine ⟨trivial, ?_⟩; gi_at_call 39; refine (CallsIn.inRound l (callsIn_wide.2 HRL.out)).mono ?_; rintro e W2 ⟨rfl, hb2⟩; simp only [lineV, ruleV]; have hb3 : Below W.heap.size W (W2.alloc (.cells #[.bool r.nt, .bool r.dr, .bool r.fx, .string r.pt] 75)) := hb2.alloc hb2.size _; have hv3 : Boxed (W2.alloc (.cells #[.bool r.nt, .bool r.dr, .bool r.fx, .string r.pt] 75)) w.heap.size 48 v := (hb3.block _ HALL.out.1.lt).trans HALL.out.1; have hrow3 : (W2.alloc (.cells #[.bool r.nt, .bool r.dr, .bool r.fx, .string r.pt] 75)).ownsRow (w.heap.size + 4) 75 4 v (pre.filterMap lineR).length (rulesL (pre.filterMap lineR)) := row_keep HALL.out.2.1 (fun k c hk _ => (hb3.block k (Array.getElem?_eq_some_iff.1 hk).1).trans hk); have hc3 := hv3.cell; have hs3 : w.heap.size + 4 ≤ W2.heap.size := Nat.le_trans HALL.out.2.2.2 hb2.size; have HB3 := hide hb3; have HV3 := hide hv3; have HR3 := hide hrow3; clear hb3 hv3 hrow3)
        | (gi_at_builtin; refine wpListIn_append_own _ rfl _ _ 48 rfl (w.heap.size + 4) 75 i0 _ 4 24 Tryz.underlying22r hi hz0 hz1 hz2 rfl (by decide) _ _ _ rfl (HR3.out.alloc _) ⟨W2.heap.size + 1, 0, none⟩ 1 1 (ruleL r) rfl rfl (World.news_of_block (cs := #[.bool r.nt, .bool r.dr, .bool r.fx, .string r.pt]) (by have := World.alloc_heap_new (W2.alloc (.cells #[.bool r.nt, .bool r.dr, .bool r.fx, .string r.pt] 75)) (.cells #[.bool r.nt, .bool r.dr, .bool r.fx, .string r.pt] 75); rw [World.size_alloc] at this; exact this)) (by simp [ruleL, Value.oneCell']) (by unfold maxLen; omega) (by omega) (by simp; omega) ?_; intro v' w1 hown' hgrow _; obtain ⟨g', cap', rfl⟩ := ownsRow_succ hown'; obtain ⟨hv1, hv2, hr2, hk2, hb5, hq2⟩ := push_rule (by simp; omega) HV3.out HR3.out hown' hgrow; have hc1 := hv1.cell; have hf1 := hv1.frozen)
      obtain ⟨hv, hrow, hB, hWs⟩ := HALL.out
      have hz5 := hb5.size
      have hb3 := HB3.out
      refine ⟨(keepsFrom_below hb3).trans (hk2.from _), fun j hj => (hq2 j hj).trans (hb3.block j (by omega)), ⟨_, hv2, ?_, trivial⟩, (hB.trans (hb3.mono hB.size)).trans hb5, by have := hb3.size; omega⟩
      rw [HFM.out, List.length_append, rulesL_snoc]
      exact hr2
  case done =>
    rintro D ys W hD rfl ⟨⟨v, hv, hrow, _⟩, hB, _⟩ hK
    have hc := hv.cell
    gi_wp2
    refine ⟨by simp, .inl ⟨_, _, rfl, run_takeDeferred hK, ?_⟩⟩
    refine ⟨_, results_tmp rfl _ _ _, v, rfl, ?_, hB.trans (belowK_b (w := w) (Nat.le_refl _) W D _ _ (by omega) hK rfl rfl)⟩
    exact owns_baseG (by omega) (ownsRow_putObj hrow _ hK rfl)
end Go.Proofs.YtjbdoeoimodhkaaGreatDoor
/- The law IgnoreLines. -/
namespace Go.Proofs.YtjbdoeoimodhkaaGreatDoor
open Go.RowKit Go.Maps

theorem rulesL_get : ∀ (rs : List RuleD) (k j : Nat) (r : RuleD), rs[k]? = some r → j < 4 → (rulesL rs)[k * 4 + j]? = (ruleL r)[j]? := by
  intro rs
  induction rs with
  | nil => intro k j r h; simp at h
  | cons x t ih =>
    intro k j r h hj
    have e : rulesL (x :: t) = ruleL x ++ rulesL t := by simp [rulesL]
    have hl : (ruleL x).length = 4 := rfl
    rw [e]
    match k, h with
    | 0, h =>
      cases h
      rw [List.getElem?_append_left (by rw [hl]; omega)]
      congr 1
      omega
    | k + 1, h =>
      rw [List.getElem?_append_right (by rw [hl]; omega), hl, show (k + 1) * 4 + j - 4 = k * 4 + j by omega]
      exact ih k j r h hj
theorem rulesL_len (rs : List RuleD) : (rulesL rs).length = rs.length * 4 := by
  induction rs with
  | nil => rfl
  | cons x t ih =>
    have e : rulesL (x :: t) = ruleL x ++ rulesL t := by simp [rulesL]
    rw [e, List.length_append, ih, List.length_cons]
    show 4 + _ = _
    omega
theorem rulesL_app (a b : List RuleD) : rulesL (a ++ b) = rulesL a ++ rulesL b := by simp [rulesL]
/-- A slice of rules, wherever it lies. -/
def RRow (t : TypeId) (B : Nat) (W : World) (v : Value) (rs : List RuleD) : Prop := (v = .slice none 0 0 ∧ rs = []) ∨ ∃ g cap, v = .slice (some ⟨g, 0, none⟩) rs.length cap ∧ g < B ∧ rs.length ≤ cap ∧ (∃ cur, W.heap[g]? = some (.cells cur t (0, 0))) ∧ ∀ (k : Nat) (r : RuleD), rs[k]? = some r → W.cell? ⟨g, k * 4, none⟩ = some (.bool r.nt) ∧ W.cell? ⟨g, k * 4 + 1, none⟩ = some (.bool r.dr) ∧ W.cell? ⟨g, k * 4 + 2, none⟩ = some (.bool r.fx) ∧ W.cell? ⟨g, k * 4 + 3, none⟩ = some (.string r.pt)
theorem RRow.of_owns {t B : Nat} {W : World} {v : Value} {rs : List RuleD} (h : W.ownsRow B t 4 v rs.length (rulesL rs)) : RRow t W.heap.size W v rs := by
  rcases h.2 with ⟨rfl, h2⟩ | ⟨g, cap, cur, rfl, hb, hg, hn, _, hs, ht⟩
  · exact .inl ⟨rfl, List.eq_nil_of_length_eq_zero h2⟩
  · refine .inr ⟨g, cap, rfl, (Array.getElem?_eq_some_iff.1 hg).1, hn, ⟨cur, hg⟩, fun k r hk => ?_⟩
    have hkl := (List.getElem?_eq_some_iff.1 hk).1
    have key : ∀ (j : Nat) (u : Value), j < 4 → (ruleL r)[j]? = some u → W.cell? ⟨g, k * 4 + j, none⟩ = some u := by
      intro j u hj hu
      have e1 := rulesL_get rs k j r hk hj
      rw [← ht, List.getElem?_take_of_lt (by omega), hu] at e1
      simp only [World.cell?, hg]
      simpa using e1
    exact ⟨key 0 _ (by decide) rfl, key 1 _ (by decide) rfl, key 2 _ (by decide) rfl, key 3 _ (by decide) rfl⟩
theorem RRow.below {t B : Nat} {W W' : World} {v : Value} {rs : List RuleD} (h : RRow t B W v rs) (hb : ∀ k, k < B → W'.heap[k]? = W.heap[k]?) : RRow t B W' v rs := by
  rcases h with h | ⟨g, cap, e, hg, hc, ⟨cur, hcur⟩, hx⟩
  · exact .inl h
  · have same : ∀ j, W'.cell? ⟨g, j, none⟩ = W.cell? ⟨g, j, none⟩ := fun j => cell_same (p := ⟨g, j, none⟩) (hb g hg)
    exact .inr ⟨g, cap, e, hg, hc, ⟨cur, (hb g hg).trans hcur⟩, fun k r hk => by rw [same, same, same, same]; exact hx k r hk⟩
theorem RRow.shape {t B : Nat} {W : World} {v : Value} {rs : List RuleD} (h : RRow t B W v rs) : ∃ a cap, v = .slice a rs.length cap := by
  rcases h with ⟨e, e2⟩ | ⟨g, cap, e, _⟩
  · subst e2; exact ⟨_, _, e⟩
  · exact ⟨_, _, e⟩
theorem split_app (c : UInt8) (a b : List UInt8) : splitL c (a ++ c :: b) = splitL c a ++ splitL c b := by
  induction a with
  | nil => rw [List.nil_append, split_same]; rfl
  | cons x t ih =>
    by_cases hx : x = c
    · subst hx
      rw [List.cons_append, split_same, split_same, ih]; rfl
    · obtain ⟨p, ps, e1, e2⟩ := split_other c x t hx
      obtain ⟨q, qs, e3, e4⟩ := split_other c x (t ++ c :: b) hx
      rw [List.cons_append, e4, e2]
      rw [ih, e1, List.cons_append] at e3
      cases e3
      rfl
theorem rules_app (a b : ByteArray) : rulesOf (a ++ ⟨#[10]⟩ ++ b) = rulesOf a ++ rulesOf b := by
  have e : (a ++ ⟨#[10]⟩ ++ b).data.toList = a.data.toList ++ 10 :: b.data.toList := by simp [ByteArray.data_append]
  unfold rulesOf cutS
  rw [e, split_app, List.map_append, List.filterMap_append]
theorem rules_a : (rulesOf ⟨#[97]⟩).length = 1 := by kernel_rfl
theorem readR_any (s : ByteArray) (hs : s.size ≤ 1073741824) (w : World) (hM : MaxW w) (h2 : 6 < w.heap.size) :
    Calls Tryz.prog 28 #[.string s] w fun e W' => ∃ v, e = .returned v ∧ W'.ownsRow w.heap.size 75 4 v (rulesOf s).length (rulesL (rulesOf s)) ∧ Below w.heap.size w W' :=
  (callsIn_wide (n := 8)).1 (read_in 8 (by omega) s hs w hM h2)
theorem rules_len (s : ByteArray) : (rulesOf s).length ≤ s.size + 1 := by
  unfold rulesOf
  exact Nat.le_trans (List.length_filterMap_le _ _) (cutS_length 10 s)
end Go.Proofs.YtjbdoeoimodhkaaGreatDoor
