/- Merged: IgC, IndexTen, SeqTen, SeqTenS. -/
import Derived.Test.YtfemboojdablhaaGreatDoorMi20
import Derived.Test.YtfemboojdablhaaGreatDoorMi12
import Derived.Lib.Strings
import Derived.Lib.Slices
import Derived.Lib.Walk
import Derived.Lib.Bytealg
namespace Go.Proofs.YtfemboojdablhaaGreatDoor
open Go.RowKit Go.Maps
structure RuleD where
  nt : Bool
  dr : Bool
  fx : Bool
  pt : ByteArray
def noRule : RuleD := ⟨false, false, false, ⟨#[]⟩⟩
def ruleV (r : RuleD) : Value := .agg #[.bool r.nt, .bool r.dr, .bool r.fx, .string r.pt]
def lineOf (l : List UInt8) : RuleD := ⟨Lib.hasPrefix l [33], Lib.hasSuffix (Lib.trimPrefix l [33]) [47], decide (0 ≤ Lib.indexByte (Lib.trimSuffix (Lib.trimPrefix l [33]) [47]) 47), bs (Lib.trimPrefix (Lib.trimSuffix (Lib.trimPrefix l [33]) [47]) [47])⟩
def lineR (s : ByteArray) : Option RuleD :=
  if Lib.hasPrefix (cutBlanksL s.data.toList) [35] = true then none
  else if (lineOf (cutBlanksL s.data.toList)).pt.toList = [] ∨ takesP (lineOf (cutBlanksL s.data.toList)).pt = false then none
  else some (lineOf (cutBlanksL s.data.toList))
def lineV (o : Option RuleD) : Value := match o with
  | none => .tuple #[ruleV noRule, .bool false]
  | some r => .tuple #[ruleV r, .bool true]
def RBox (W : World) (z : Nat) (r : RuleD) : Prop := W.heap[z]? = some (.cells #[.bool r.nt, .bool r.dr, .bool r.fx, .string r.pt] 153 (0, 0))
theorem RBox.cells {W : World} {z : Nat} {r : RuleD} (h : RBox W z r) : W.cell? ⟨z, 0, none⟩ = some (.bool r.nt) ∧ W.cell? ⟨z, 1, none⟩ = some (.bool r.dr) ∧ W.cell? ⟨z, 2, none⟩ = some (.bool r.fx) ∧ W.cell? ⟨z, 3, none⟩ = some (.string r.pt) ∧ ∀ j, W.frozen? ⟨z, j, none⟩ = false := by
  unfold RBox at h
  simp [World.cell?, World.frozen?, h]
theorem rset4 {W : World} {z : Nat} {r0 : RuleD} (h : RBox W z r0) (r : RuleD) : RBox ((((W.setCell ⟨z, 0, none⟩ (.bool r.nt)).setCell ⟨z, 1, none⟩ (.bool r.dr)).setCell ⟨z, 2, none⟩ (.bool r.fx)).setCell ⟨z, 3, none⟩ (.string r.pt)) z r ∧ ∀ k, k ≠ z → ((((W.setCell ⟨z, 0, none⟩ (.bool r.nt)).setCell ⟨z, 1, none⟩ (.bool r.dr)).setCell ⟨z, 2, none⟩ (.bool r.fx)).setCell ⟨z, 3, none⟩ (.string r.pt)).heap[k]? = W.heap[k]? := by
  have st : ∀ (V : World) (cs : Array Value) (j : Nat) (v : Value), V.heap[z]? = some (.cells cs 153 (0, 0)) → (V.setCell ⟨z, j, none⟩ v).heap[z]? = some (.cells (cs.set! j v) 153 (0, 0)) := by
    intro V cs j v hV
    obtain ⟨hlt, hk⟩ := Array.getElem?_eq_some_iff.1 hV
    show (V.heap.modify z _)[z]? = _
    rw [Array.getElem?_eq_getElem (by rw [Array.size_modify]; exact hlt), Array.getElem_modify_self, hk]
    rfl
  have ot : ∀ (V : World) (j : Nat) (v : Value) (k : Nat), k ≠ z → (V.setCell ⟨z, j, none⟩ v).heap[k]? = V.heap[k]? := by
    intro V j v k hk
    show (V.heap.modify z _)[k]? = _
    rw [Array.getElem?_modify, if_neg (fun e => hk e.symm)]
  refine ⟨st _ _ 3 _ (st _ _ 2 _ (st _ _ 1 _ (st _ _ 0 _ h))), fun k hk => ?_⟩
  rw [ot _ _ _ k hk, ot _ _ _ k hk, ot _ _ _ k hk, ot _ _ _ k hk]
theorem set_other (W : World) (z j : Nat) (v : Value) {k : Nat} (hk : k ≠ z) : (W.setCell ⟨z, j, none⟩ v).heap[k]? = W.heap[k]? := by
  show (W.heap.modify z _)[k]? = _
  rw [Array.getElem?_modify, if_neg (fun e => hk e.symm)]
theorem rset3 {W : World} {z : Nat} {r0 : RuleD} (h : RBox W z r0) (r : RuleD) : RBox (((W.setCell ⟨z, 0, none⟩ (.bool r.nt)).setCell ⟨z, 1, none⟩ (.bool r.dr)).setCell ⟨z, 2, none⟩ (.bool r.fx)) z ⟨r.nt, r.dr, r.fx, r0.pt⟩ := by
  have st : ∀ (V : World) (cs : Array Value) (j : Nat) (v : Value), V.heap[z]? = some (.cells cs 153 (0, 0)) → (V.setCell ⟨z, j, none⟩ v).heap[z]? = some (.cells (cs.set! j v) 153 (0, 0)) := by
    intro V cs j v hV
    obtain ⟨hlt, hk⟩ := Array.getElem?_eq_some_iff.1 hV
    show (V.heap.modify z _)[z]? = _
    rw [Array.getElem?_eq_getElem (by rw [Array.size_modify]; exact hlt), Array.getElem_modify_self, hk]
    rfl
  exact st _ _ 2 _ (st _ _ 1 _ (st _ _ 0 _ h))
theorem below_out {B : Nat} {w W W' : World} (h : Below B w W) (hos : W'.os = W.os) (ht : W'.tape = W.tape) (ho : W'.output = W.output) (hsz : W.heap.size ≤ W'.heap.size) (hb : ∀ k, k < B → W'.heap[k]? = W.heap[k]?) : Below B w W' :=
  ⟨hos.trans h.os, ht.trans h.tape, ho.trans h.output, Nat.le_trans h.size hsz, fun k hk => (hb k hk).trans (h.block k hk)⟩
theorem rule_ret {W : World} {a : Act} {z : Nat} {r : RuleD} {b : Bool} {R : Ending → World → Prop} (h : RBox W z r) (h2 : a.tmps[2]? = some (.pointer (some ⟨z, 0, none⟩))) (h3 : a.tmps[3]? = some (.bool b)) (hd : a.defers = []) (hR : R (.returned (.tuple #[ruleV r, .bool b])) W) : bodyPost Tryz.prog Tryz.f124 R .ret a W := by
  obtain ⟨c0, c1, c2, c3, _⟩ := h.cells
  refine bodyPost_ret (v := .tuple #[ruleV r, .bool b]) ?_ hd hR
  simp [results, Tryz.results124, go_sem, h2, h3, c0, c1, c2, c3, ruleV]
theorem trimP_len (l p : List UInt8) : (Lib.trimPrefix l p).length ≤ l.length := by unfold Lib.trimPrefix; split <;> simp
theorem trimS_len (l p : List UInt8) : (Lib.trimSuffix l p).length ≤ l.length := by unfold Lib.trimSuffix; split <;> simp <;> omega
theorem blanks_len (l : List UInt8) : (cutBlanksL l).length ≤ l.length := by
  unfold cutBlanksL
  split
  · rw [List.length_take]; omega
  · exact trim_len _ _
set_option maxRecDepth 100000 in
set_option maxHeartbeats 4000000 in
theorem readLine_any (s : ByteArray) (w : World) (hs : s.size ≤ 1073741824) (hM : MaxW w) (h2 : 9 < w.heap.size) :
    Calls Tryz.prog 124 #[.string s] w fun e w' => e = .returned (lineV (lineR s)) ∧ Below w.heap.size w w' := by
  have hsl := size_list s
  have h14 : ∀ w, Calls Tryz.prog 147 #[.string s] w fun e w' => e = .returned (.string (bs (cutBlanksL s.data.toList))) ∧ w' = w := fun w => cutBlanks_any s w hs
  have hcl := blanks_len s.data.toList
  rw [hsl] at hcl
  obtain ⟨l, hl⟩ : ∃ l, cutBlanksL s.data.toList = l := ⟨_, rfl⟩
  have HL := hide (show lineR s = if Lib.hasPrefix l [35] = true then none else if (lineOf l).pt.toList = [] ∨ takesP (lineOf l).pt = false then none else some (lineOf l) by unfold lineR; rw [hl])
  rw [hl] at h14 hcl
  clear hl
  have h15 : ∀ w, Calls Tryz.prog 148 #[.string (bs l), .string ⟨#[35]⟩] w fun e w' => e = .returned (.bool (Lib.hasPrefix l [35])) ∧ w' = w := fun w => Tryz.strings_HasPrefix (bs l) ⟨#[35]⟩ w
  have h16 : ∀ w, Calls Tryz.prog 149 #[.string (bs l), .string ⟨#[33]⟩] w fun e w' => e = .returned (.tuple #[.string (bs (Lib.trimPrefix l [33])), .bool (lineOf l).nt]) ∧ w' = w := fun w => Tryz.strings_CutPrefix (bs l) ⟨#[33]⟩ w
  have h17 : ∀ w, Calls Tryz.prog 150 #[.string (bs (Lib.trimPrefix l [33])), .string ⟨#[47]⟩] w fun e w' => e = .returned (.tuple #[.string (bs (Lib.trimSuffix (Lib.trimPrefix l [33]) [47])), .bool (lineOf l).dr]) ∧ w' = w := fun w => Tryz.strings_CutSuffix (bs (Lib.trimPrefix l [33])) ⟨#[47]⟩ w (by have := trimP_len l [33]; show (⟨_⟩ : ByteArray).size ≤ _; rw [bs_size]; omega)
  have h18 : ∀ w, Calls Tryz.prog 151 #[.string (bs (Lib.trimSuffix (Lib.trimPrefix l [33]) [47])), .string ⟨#[47]⟩] w fun e w' => e = .returned (.bool (lineOf l).fx) ∧ w' = w := fun w => Tryz.strings_Contains_one (bs (Lib.trimSuffix (Lib.trimPrefix l [33]) [47])) 47 w
  have h19 : ∀ w, Calls Tryz.prog 152 #[.string (bs (Lib.trimSuffix (Lib.trimPrefix l [33]) [47])), .string ⟨#[47]⟩] w fun e w' => e = .returned (.string (lineOf l).pt) ∧ w' = w := fun w => Tryz.strings_TrimPrefix (bs (Lib.trimSuffix (Lib.trimPrefix l [33]) [47])) ⟨#[47]⟩ w
  have hpz : (lineOf l).pt.size ≤ 1073741824 := by
    show (⟨_⟩ : ByteArray).size ≤ _
    rw [bs_size]
    have a := trimP_len (Lib.trimSuffix (Lib.trimPrefix l [33]) [47]) [47]
    have b := trimS_len (Lib.trimPrefix l [33]) [47]
    have c := trimP_len l [33]
    omega
  obtain ⟨r, hr⟩ : ∃ r, lineOf l = r := ⟨_, rfl⟩
  rw [hr] at HL h16 h17 h18 h19 hpz
  obtain ⟨L, hL⟩ : ∃ L, bs l = L := ⟨_, rfl⟩
  obtain ⟨L1, hL1⟩ : ∃ L1, bs (Lib.trimPrefix l [33]) = L1 := ⟨_, rfl⟩
  obtain ⟨L2, hL2⟩ : ∃ L2, bs (Lib.trimSuffix (Lib.trimPrefix l [33]) [47]) = L2 := ⟨_, rfl⟩
  rw [hL] at h14 h15 h16
  rw [hL1] at h16 h17
  rw [hL2] at h17 h18 h19
  clear hL hL1 hL2 hr
  obtain ⟨b35, hb35⟩ : ∃ b, Lib.hasPrefix l [35] = b := ⟨_, rfl⟩
  rw [hb35] at HL h15
  clear hb35
  have hbox := World.alloc_heap_new w (.cells #[.bool false, .bool false, .bool false, .string ⟨#[]⟩] 153)
  have hal : Below w.heap.size w (w.alloc (.cells #[.bool false, .bool false, .bool false, .string ⟨#[]⟩] 153)) := (Below.refl _ _).alloc (Nat.le_refl _) _
  obtain ⟨W1, hW1⟩ : ∃ W1, w.alloc (.cells #[.bool false, .bool false, .bool false, .string ⟨#[]⟩] 153) = W1 := ⟨_, rfl⟩
  rw [hW1] at hbox hal
  have hs1 : W1.heap.size = w.heap.size + 1 := by rw [← hW1, World.size_alloc]
  have hR1 : RBox W1 w.heap.size noRule := hbox
  obtain ⟨c0, c1, c2, c3, cf⟩ := hR1.cells
  have f0 := cf 0
  have f1 := cf 1
  have f2 := cf 2
  have f3 := cf 3
  have HX := hide (⟨hR1, hal, hs1⟩ : _ ∧ _ ∧ _)
  clear hbox hR1 hal hs1 cf
  cases b35 with
  | true =>
    go_enter Tryz.func124, Tryz.ntmps124
    go_wp2_with first
      | (go_at_call 147; refine (h14 _).mono ?_; rintro e w' ⟨rfl, hw⟩; rw [hw]; clear hw)
      | (go_at_call 148; refine (h15 _).mono ?_; rintro e w' ⟨rfl, hw⟩; rw [hw]; clear hw)
    obtain ⟨hR1, hal, hs1⟩ := HX.out
    obtain ⟨hR2, ho2⟩ := rset4 hR1 noRule
    refine rule_ret hR2 rfl rfl rfl ⟨?_, below_out hal rfl rfl rfl (by simp only [set_size]; exact Nat.le_refl _) (fun k hk => ho2 k (by omega))⟩
    rw [HL.out, if_pos trivial]
    rfl
  | false =>
    have hR1 := HX.out.1
    have hal := HX.out.2.1
    have hs1 := HX.out.2.2
    have hR2 : RBox (W1.alloc (.cells #[.bool false, .bool false, .bool false, .string ⟨#[]⟩] 153)) W1.heap.size noRule := World.alloc_heap_new W1 (.cells #[.bool false, .bool false, .bool false, .string ⟨#[]⟩] 153)
    have hR12 : RBox (W1.alloc (.cells #[.bool false, .bool false, .bool false, .string ⟨#[]⟩] 153)) w.heap.size noRule := (Below.heap_alloc _ _ _ (by omega)).trans hR1
    have hal2 : Below w.heap.size w (W1.alloc (.cells #[.bool false, .bool false, .bool false, .string ⟨#[]⟩] 153)) := hal.alloc hal.size _
    have hs2 : (W1.alloc (.cells #[.bool false, .bool false, .bool false, .string ⟨#[]⟩] 153)).heap.size = w.heap.size + 2 := by rw [World.size_alloc, hs1]
    obtain ⟨W2, hW2⟩ : ∃ W2, W1.alloc (.cells #[.bool false, .bool false, .bool false, .string ⟨#[]⟩] 153) = W2 := ⟨_, rfl⟩
    rw [hW2] at hR2 hR12 hal2 hs2
    obtain ⟨e0, e1, e2, e3, ef⟩ := hR2.cells
    have g0 := ef 0
    have g1 := ef 1
    have g2 := ef 2
    have g3 := ef 3
    have HY := hide (⟨hR2, hR12, hal2, hs2⟩ : _ ∧ _ ∧ _ ∧ _)
    have hlt1 : w.heap.size < W1.heap.size := by omega
    have HS1 := hide hs1
    clear hR1 hal hR2 hR12 hal2 hs2 ef hs1 c0 c1 c2 c3 f0 f1 f2 f3
    go_enter Tryz.func124, Tryz.ntmps124
    go_wp2_with fail
    refine (h14 _).mono ?_
    rintro e w' ⟨rfl, hw⟩
    rw [hw]
    clear hw
    go_wp2_with fail
    refine (h15 _).mono ?_
    rintro e w' ⟨rfl, hw⟩
    rw [hw]
    clear hw
    go_wp2_with fail
    refine (h16 _).mono ?_
    rintro e w' ⟨rfl, hw⟩
    rw [hw]
    clear hw
    go_wp2_with fail
    refine (h17 _).mono ?_
    rintro e w' ⟨rfl, hw⟩
    rw [hw]
    clear hw
    go_wp2_with fail
    refine (h18 _).mono ?_
    rintro e w' ⟨rfl, hw⟩
    rw [hw]
    clear hw
    go_wp2_with fail
    refine (h19 _).mono ?_
    rintro e w' ⟨rfl, hw⟩
    rw [hw]
    clear hw
    obtain ⟨W5, hW5⟩ : ∃ W5, ((W2.setCell ⟨W1.heap.size, 0, none⟩ (.bool r.nt)).setCell ⟨W1.heap.size, 1, none⟩ (.bool r.dr)).setCell ⟨W1.heap.size, 2, none⟩ (.bool r.fx) = W5 := ⟨_, rfl⟩
    rw [hW5]
    have hR35 := rset3 HY.out.1 r
    rw [hW5] at hR35
    have k3 : W5.cell? ⟨W1.heap.size, 3, none⟩ = some (.string ⟨#[]⟩) := hR35.cells.2.2.2.1
    have kf : W5.frozen? ⟨W1.heap.size, 3, none⟩ = false := hR35.cells.2.2.2.2 3
    clear hR35
    obtain ⟨hR6, ho6⟩ := rset4 HY.out.1 r
    rw [hW5] at hR6 ho6
    have hal6 : Below w.heap.size w (W5.setCell ⟨W1.heap.size, 3, none⟩ (.string r.pt)) := by
      refine below_out HY.out.2.2.1 ?_ ?_ ?_ ?_ (fun k hk => ho6 k (by omega))
      · rw [← hW5]; rfl
      · rw [← hW5]; rfl
      · rw [← hW5]; rfl
      · rw [← hW5, set_size, set_size, set_size, set_size]; exact Nat.le_refl _
    have hR06 : RBox (W5.setCell ⟨W1.heap.size, 3, none⟩ (.string r.pt)) w.heap.size noRule := (ho6 _ (by omega)).trans HY.out.2.1
    have hs6 : (W5.setCell ⟨W1.heap.size, 3, none⟩ (.string r.pt)).heap.size = w.heap.size + 2 := by rw [← hW5, set_size, set_size, set_size, set_size]; exact HY.out.2.2.2
    have hR05 : RBox W5 w.heap.size noRule := by
      have : W5.heap[w.heap.size]? = W2.heap[w.heap.size]? := by
        rw [← ho6 _ (show w.heap.size ≠ W1.heap.size by omega)]
        rw [set_other _ _ _ _ (by omega)]
      exact this.trans HY.out.2.1
    obtain ⟨p0, p1, p2, p3, pf⟩ := hR05.cells
    have q0 := pf 0
    have q1 := pf 1
    have q2 := pf 2
    have q3 := pf 3
    have hne : ¬ w.heap.size = W1.heap.size := by omega
    have hne' : ¬ W1.heap.size = w.heap.size := by omega
    have HZ := hide (⟨hR6, hal6, hR06, hs6⟩ : _ ∧ _ ∧ _ ∧ _)
    clear hW5 hR6 ho6 hal6 hR06 hs6 e0 e1 e2 e3 g0 g1 g2 g3 hR05 pf
    cases hE : r.pt.toList.isEmpty with
    | true =>
      go_wp2_with fail
      obtain ⟨hR6, hal6, hR06, hs6⟩ := HZ.out
      obtain ⟨hR7, ho7⟩ := rset4 hR06 noRule
      refine rule_ret hR7 rfl rfl rfl ⟨?_, below_out hal6 rfl rfl rfl (by simp only [set_size]; exact Nat.le_refl _) (fun k hk => ho7 k (by omega))⟩
      have : r.pt.toList = [] := List.isEmpty_iff.1 hE
      rw [HL.out, if_neg (by decide), if_pos (.inl this)]
      rfl
    | false =>
      go_wp2_with fail
      obtain ⟨hR6, hal6, hR06, hs6⟩ := HZ.out
      obtain ⟨W6, hW6⟩ : ∃ W6, W5.setCell ⟨W1.heap.size, 3, none⟩ (.string r.pt) = W6 := ⟨_, rfl⟩
      rw [hW6] at hR6 hal6 hR06 hs6
      rw [hW6]
      have htp := takesParts_any r.pt W6 hpz (hM.below h2 hal6) (Nat.lt_of_lt_of_le h2 hal6.size)
      have HLT := hide (show W1.heap.size < W6.heap.size by have := HS1.out; omega)
      have HZ6 := hide (⟨hR6, hal6, hR06, hs6⟩ : _ ∧ _ ∧ _ ∧ _)
      clear hW6 k3 kf p0 p1 p2 p3 q0 q1 q2 q3 hR6 hal6 hR06 hs6
      have hEn : ¬ r.pt.toList = [] := fun e => by rw [e] at hE; cases hE
      obtain ⟨t, ht⟩ : ∃ t, takesP r.pt = t := ⟨_, rfl⟩
      rw [ht] at htp HL
      clear ht
      refine htp.mono ?_
      rintro e W7 ⟨rfl, hb7⟩
      obtain ⟨hR6, hal6, hR06, hs6⟩ := HZ6.out
      have hR7 : RBox W7 W1.heap.size r := (hb7.block _ HLT.out).trans hR6
      have hR07 : RBox W7 w.heap.size noRule := (hb7.block _ (by omega)).trans hR06
      have hal7 : Below w.heap.size w W7 := hal6.trans (hb7.mono hal6.size)
      obtain ⟨k0, k1, k2, k3, kf⟩ := hR7.cells
      obtain ⟨p0, p1, p2, p3, pf⟩ := hR07.cells
      have q0 := pf 0
      have q1 := pf 1
      have q2 := pf 2
      have q3 := pf 3
      have HV := hide (⟨hR07, hal7⟩ : _ ∧ _)
      clear hR6 hal6 hR06 hs6 hR7 hR07 hal7 pf kf hb7 HZ6 HZ HY HX
      cases t with
      | false =>
        go_wp2_with fail
        obtain ⟨hR07, hal7⟩ := HV.out
        obtain ⟨hR8, ho8⟩ := rset4 hR07 noRule
        refine rule_ret hR8 rfl rfl rfl ⟨?_, below_out hal7 rfl rfl rfl (by simp only [set_size]; exact Nat.le_refl _) (fun k hk => ho8 k (by omega))⟩
        rw [HL.out, if_neg (by decide), if_pos (by simp)]
        rfl
      | true =>
        go_wp2_with fail
        obtain ⟨hR07, hal7⟩ := HV.out
        obtain ⟨hR8, ho8⟩ := rset4 hR07 r
        refine rule_ret hR8 rfl rfl rfl ⟨?_, below_out hal7 rfl rfl rfl (by simp only [set_size]; exact Nat.le_refl _) (fun k hk => ho8 k (by omega))⟩
        rw [HL.out, if_neg (by decide), if_neg (by rintro (h | h); exact hEn h; cases h)]
        rfl
end Go.Proofs.YtfemboojdablhaaGreatDoor
namespace Go.Proofs.YtfemboojdablhaaGreatDoor.Ten
open Go.RowKit
def idxS (r : ByteArray) : Int := Lib.indexByte r.data.toList 10
theorem idx_cases (c : UInt8) (l : List UInt8) : (Lib.indexByte l c = -1 ∧ c ∉ l) ∨ ∃ p r, l = p ++ c :: r ∧ c ∉ p ∧ Lib.indexByte l c = (p.length : Int) := by
  induction l with
  | nil => exact .inl ⟨rfl, by simp⟩
  | cons b l ih =>
    by_cases hb : b = c
    · subst hb
      exact .inr ⟨[], l, rfl, by simp, by simp [Lib.indexByte]⟩
    · have hbb : (b == c) = false := by simpa using hb
      rcases ih with ⟨h1, h2⟩ | ⟨p, r, rfl, h2, h3⟩
      · exact .inl ⟨by simp [Lib.indexByte, hbb, h1], by simp [h2]; exact fun e => hb e.symm⟩
      · refine .inr ⟨b :: p, r, rfl, by simp [h2]; exact fun e => hb e.symm, ?_⟩
        have hne : ¬ ((p.length : Int) = -1) := by omega
        simp [Lib.indexByte, hbb, h3, hne]
theorem idxS_cases (r : ByteArray) : (idxS r = -1 ∧ (10 : UInt8) ∉ r.data.toList) ∨ ∃ p t : List UInt8, r.data.toList = p ++ 10 :: t ∧ (10 : UInt8) ∉ p ∧ idxS r = (p.length : Int) := idx_cases 10 r.data.toList
set_option maxHeartbeats 1000000 in
set_option maxRecDepth 100000 in
theorem indexByte_any (s : ByteArray) (c : Int) (w : World) :
    Calls Tryz.prog 252 #[.string s, .int .u8 c] w fun e w' => e = .returned (.int .i64 (Lib.indexByte s.data.toList c.toNat.toUInt8)) ∧ w' = w := by
  go_enter Tryz.func252, Tryz.ntmps252
  go_wp2
  rw [run_callFunc_extern Tryz.func275 (by kernel_rfl) (by kernel_rfl) (by kernel_rfl) (e := Extern.BytealgIndexByte.indexByte) (by kernel_rfl), Lib.run_indexByteString]
  simp only [Result.andThen]
  rw [Oper.upon_value]
  go_wp2
  go_ret
  exact ⟨rfl, rfl⟩
set_option maxHeartbeats 2000000 in
set_option maxRecDepth 100000 in
theorem indexLite_any (s : ByteArray) (w : World) :
    Calls Tryz.prog 221 #[.string s, .string ⟨#[10]⟩] w fun e w' => e = .returned (.int .i64 (idxS s)) ∧ w' = w := by
  go_enter Tryz.func221, Tryz.ntmps221
  go_wp2_with (go_at_call 252; refine (indexByte_any _ _ _).mono ?_; rintro e w' ⟨rfl, rfl⟩)
  · have h : ([10] == s.toList) = true := by assumption
    go_ret
    refine ⟨?_, rfl⟩
    have e : s.data.toList = [10] := by rw [← Lib.toList_data]; exact (beq_iff_eq.1 h).symm
    unfold idxS
    rw [e]
    simp [Lib.indexByte]
  · go_ret
    exact ⟨rfl, rfl⟩
set_option maxHeartbeats 1000000 in
theorem index_any (s : ByteArray) (w : World) :
    Calls Tryz.prog 184 #[.string s, .string ⟨#[10]⟩] w fun e w' => e = .returned (.int .i64 (idxS s)) ∧ w' = w := by
  go_enter Tryz.func184, Tryz.ntmps184
  go_wp2_with (go_at_call 221; refine (indexLite_any _ _).mono ?_; rintro e w' ⟨rfl, rfl⟩)
  go_ret
  exact ⟨rfl, rfl⟩
end Go.Proofs.YtfemboojdablhaaGreatDoor.Ten
namespace Go.Proofs.YtfemboojdablhaaGreatDoor.Ten
open Go.RowKit Go.Shelf
attribute [local go_sem] Oper.semAt_some
theorem cutS_miss {r : ByteArray} (h : (10 : UInt8) ∉ r.data.toList) : cutS 10 r = [r] := by
  unfold cutS; rw [split_end 10 _ h]; rfl
theorem cutS_hit {r : ByteArray} {p t : List UInt8} (h : r.data.toList = p ++ 10 :: t) (hp : (10 : UInt8) ∉ p) : cutS 10 r = r.extract 0 p.length :: cutS 10 (r.extract (p.length + 1) r.size) := by
  have e1 : r.extract 0 p.length = bs p := by rw [extract_bs, h]; simp
  have e2 : r.extract (p.length + 1) r.size = bs t := by
    rw [extract_bs, ← size_list r, h]
    congr 1
    rw [List.drop_append, List.drop_of_length_le (by omega), show p.length + 1 - p.length = 1 from by omega]
    simp only [List.drop_succ_cons, List.drop_zero, List.nil_append]
    exact List.take_of_length_le (by simp; omega)
  unfold cutS
  rw [e1, e2, h, split_hit 10 p t hp, data_bs]
  rfl
def boxLen (W : World) (b : Nat) : Nat := match W.cell? ⟨b, 0, none⟩ with
  | some (.string r) => r.size
  | _ => 0
theorem boxLen_of {W : World} {b t : Nat} {r : ByteArray} (h : Boxed W b t (.string r)) : boxLen W b = r.size := by
  unfold boxLen; rw [h.cell]
def KeepBoxes (b1 b2 b3 : Nat) (W W' : World) : Prop := ∀ k, (k = b1 ∨ k = b2 ∨ k = b3) → W'.heap[k]? = W.heap[k]?
set_option maxHeartbeats 1000000 in
theorem splitSeq_in (n : Nat) (s sep : ByteArray) (w : World) :
    CallsIn Fence.wide n Tryz.prog 146 #[.string s, .string sep, .int .i64 0] w fun e w' => e = .returned (.func (.func 182) #[] #[.pointer (some ⟨w.heap.size + 1, 0, none⟩), .pointer (some ⟨w.heap.size, 0, none⟩), .pointer (some ⟨w.heap.size + 2, 0, none⟩)]) ∧ w' = ((w.alloc (.cells #[.string s] 9)).alloc (.cells #[.string sep] 9)).alloc (.cells #[.int .i64 0] 3) := by
  refine callsIn_of_wp Tryz.func146 rfl trivial ?_ rfl
  simp only [Tryz.ntmps146, List.size_toArray, List.length_cons, List.length_nil, Nat.reduceAdd, Nat.reduceSub, Array.replicate_succ, Array.replicate_zero, List.push_toArray, List.append_toArray, List.nil_append, List.cons_append]
  gi_wp2
  go_ret
  exact ⟨rfl, rfl⟩
set_option maxHeartbeats 1000000 in
theorem SplitSeq_in (n : Nat) (hn : 1 ≤ n) (s sep : ByteArray) (w : World) :
    CallsIn Fence.wide n Tryz.prog 123 #[.string s, .string sep] w fun e w' => e = .returned (.func (.func 182) #[] #[.pointer (some ⟨w.heap.size + 1, 0, none⟩), .pointer (some ⟨w.heap.size, 0, none⟩), .pointer (some ⟨w.heap.size + 2, 0, none⟩)]) ∧ w' = ((w.alloc (.cells #[.string s] 9)).alloc (.cells #[.string sep] 9)).alloc (.cells #[.int .i64 0] 3) := by
  refine callsIn_of_wp Tryz.func123 rfl trivial ?_ rfl
  simp only [Tryz.ntmps123, List.size_toArray, List.length_cons, List.length_nil, Nat.reduceAdd, Nat.reduceSub, Array.replicate_succ, Array.replicate_zero, List.push_toArray, List.append_toArray, List.nil_append, List.cons_append]
  gi_wp2_with (refine ⟨trivial, ?_⟩; gi_at_call 146; refine (splitSeq_in _ _ _ _).mono ?_; rintro e w' ⟨rfl, rfl⟩)
  go_ret
  exact ⟨rfl, rfl⟩
end Go.Proofs.YtfemboojdablhaaGreatDoor.Ten
namespace Go.Proofs.YtfemboojdablhaaGreatDoor.Ten
open Go.RowKit Go.Shelf
attribute [local go_sem] Oper.semAt_some
def SeqBoxS {α : Type} (F : Fence) (n : Nat) (P : Program) (gf : Nat) (lb : Array Value) (encs : α → Array Value) (Kp : World → World → Prop) (S Sp : List α → Prop) (Sx : List α → α → Prop) (bx : Nat) (w : World) : Prop :=
  ∀ (l : Nat) (J Jx : List α → World → Prop) (W : World), Below w.heap.size w W → (∀ s A v, J s A → J s (A.setCell ⟨bx, 0, none⟩ v)) →
    (∀ pre x W1, J pre W1 → Sx pre x → YieldAt F (n - 1) P l (encs x) W1 fun e W' => (e = .returned (.bool true) ∧ J (pre ++ [x]) W' ∧ Kp W1 W') ∨ (e = .returned (.bool false) ∧ Jx (pre ++ [x]) W')) →
    J [] W → CallsIn F n P gf (#[.func (.yield l) #[] #[]] ++ lb) W fun e W' => (∃ v, e = .returned v) ∧ ((∃ xs, S xs ∧ J xs W') ∨ (∃ pre, Sp pre ∧ Jx pre W'))
theorem wpIn_range_boxS {F : Fence} {n : Nat} {P : Program} {α : Type} {g : Operand} {ps : Array Tmp} {assign body : Code} {Q : Exit → Act → World → Prop} {a : Act} {w : World}
    (hro : F.round = none) (h1 : 1 ≤ n) {gf : Nat} {lb : Array Value} (hg : a.eval g = .func (.func gf) #[] lb) (hFg : F.fn gf) (eg : ∀ args w, (callFunc gf args).run P w = .ok (.enter gf args) w)
    {encs : α → Array Value} {Kp : World → World → Prop} {S Sp : List α → Prop} {Sx : List α → α → Prop} {bx : Nat} (hbx : bx < w.heap.size) (hseq : SeqBoxS F (n - 1) P gf lb encs Kp S Sp Sx bx w)
    (hKt : ∀ {A B C : World}, Kp A B → Kp B C → Kp A C) (hKb : ∀ (W : World) (l : Nat) (o o' : Obj), w.heap.size ≤ l → W.heap[l]? = some o → Kp W (W.putObj l o')) (hps : ∀ x, (encs x).size = ps.size)
    (I : List α → World → Prop) (Ix : Code → List α → World → Prop) (hI : OwnFrom w.heap.size I) (hIx : ∀ c, OwnFrom w.heap.size (Ix c)) (hIs : ∀ s A v, I s A → I s (A.setCell ⟨bx, 0, none⟩ v)) (h0 : I [] w) (a₁ : α → Act)
    (hassign : ∀ (l : Nat) (x : α) (W : World) (K : Act → World → Prop), K (a₁ x) W →
      assign.wpIn (F.inRound l) (n - 1 - 1) P (Exit.then K (fun _ _ _ => False)) { tmps := (ps.zip (encs x)).foldl (fun t (p, v) => t.setIfInBounds p v) a.tmps, defers := [] } W)
    (hbody : ∀ (l : Nat) (pre : List α) (x : α) (W : World), I pre W → Sx pre x → body.wpIn (F.inRound l) (n - 1 - 1) P (ownPostG w.heap.size Kp I Ix (pre ++ [x]) W) (a₁ x) W)
    (hdone : ∀ (D : Nat) (xs : List α) (W : World), w.heap.size ≤ D → S xs → I xs W → W.heap[D]? = some (.deferred (some [])) → Q .normal { a with defers := { target := .collected D, args := #[] } :: a.defers } W)
    (hstop : ∀ (D : Nat) (c : Code) (pre : List α) (W : World), w.heap.size ≤ D → Sp pre → Ix c pre W → W.heap[D]? = some (.deferred (some [])) → c.wpIn F n P Q { a with defers := { target := .collected D, args := #[] } :: a.defers } W) :
    (Code.rangeFunc g ps assign body).wpIn F n P Q a w := by
  refine wpIn_rangeFunc ?_
  intro fn hfn
  rw [hro]
  obtain ⟨rec, hrec⟩ : ∃ rec : LoopState → Option Code → Loop, rec = fun st pe => { state := st, pending := pe, fn, tmps := a.tmps, params := ps, assign, body, defers := w.heap.size } := ⟨_, rfl⟩
  obtain ⟨W1, hW1⟩ : ∃ W1, (w.alloc (.deferred (some []))).alloc (.loop (rec .ready none)) = W1 := ⟨_, rfl⟩
  have hL1 : W1.heap[w.heap.size + 1]? = some (.loop (rec .ready none)) := by
    rw [← hW1]; have := World.alloc_heap_new (w.alloc (.deferred (some []))) (.loop (rec .ready none)); rwa [World.size_alloc] at this
  have hK1 : W1.heap[w.heap.size]? = some (.deferred (some [])) := by
    rw [← hW1]; exact (Below.heap_alloc _ _ _ (by simp)).trans (World.alloc_heap_new w _)
  have hI1 : I [] W1 := by rw [← hW1]; exact hI.alloc _ (hI.alloc _ h0)
  have hb1 : Below w.heap.size w W1 := by
    rw [← hW1]; exact (((Below.refl _ w).alloc (Nat.le_refl _) _).alloc (by simp) _)
  refine ⟨w.heap.size + 1, [{ target := .collected w.heap.size, args := #[] }], W1, { target := .fn (.func gf) lb, args := #[.func (.yield (w.heap.size + 1)) #[] #[]] }, W1, gf,
    #[.func (.yield (w.heap.size + 1)) #[] #[]] ++ lb, W1, ?_, ?_, ?_, ?_, fun _ => h1, ?_⟩
  · rw [← hW1, hrec]; exact run_enterLoop_outer _ _ _ _ _
  · simp only [resolve, hg]
    simp [go_sem]
  · intro f' hf'; simp [Target.leads] at hf'; subst hf'; exact hFg
  · simp [invoke, go_sem, eg]
  · refine (hseq (w.heap.size + 1)
      (fun pre W => I pre W ∧ W.heap[w.heap.size + 1]? = some (.loop (rec .ready none)) ∧ W.heap[w.heap.size]? = some (.deferred (some [])))
      (fun pre W => ∃ c, Ix c pre W ∧ W.heap[w.heap.size + 1]? = some (.loop (rec .done (some c))) ∧ W.heap[w.heap.size]? = some (.deferred (some [])))
      W1 hb1
      (fun s A v hs => ⟨hIs s A v hs.1, set_block A bx _ v _ (by omega) hs.2.1, set_block A bx _ v _ (by omega) hs.2.2⟩)
      ?_ ⟨hI1, hL1, hK1⟩).mono ?_
    · rintro pre x W ⟨hi, hl, hk⟩ hlen
      have hlt : w.heap.size + 1 < W.heap.size := (Array.getElem?_eq_some_iff.1 hl).1
      have hy := run_yield (P := P) (args := encs x) hl (by rw [hrec]; exact hps x)
      rw [hrec] at hy
      refine ⟨fn, _, assign, body, hy, roundIn_of_wpIn hfn (hassign _ x W _ ⟨_, run_beginRound hl (by rw [hrec]), ?_⟩)⟩
      have hl2 : (W.putObj (w.heap.size + 1) (.loop { rec .ready none with state := .busy })).heap[w.heap.size + 1]? = some (.loop { rec .ready none with state := .busy }) := World.putObj_heap_same hlt
      have hk2 : (W.putObj (w.heap.size + 1) (.loop { rec .ready none with state := .busy })).heap[w.heap.size]? = some (.deferred (some [])) := (World.putObj_heap_other (by omega)).trans hk
      have hw2 : Kp W (W.putObj (w.heap.size + 1) (.loop { rec .ready none with state := .busy })) := hKb _ _ _ _ (by omega) hl
      refine wpIn_mono (hbody _ pre x _ (hI.putObj _ hi (by omega) hl rfl) hlen) ?_
      have fin : ∀ (jump : Option Code) (W3 : World), KeepsFrom w.heap.size (W.putObj (w.heap.size + 1) (.loop { rec .ready none with state := .busy })) W3 →
          (Instr.endRound (w.heap.size + 1) jump).run P W3 = .ok (.bool jump.isNone) (W3.putObj (w.heap.size + 1) (.loop (rec (if jump.isNone then .ready else .done) jump))) ∧
          W3.heap[w.heap.size + 1]? = some (.loop { rec .ready none with state := .busy }) ∧
          (W3.putObj (w.heap.size + 1) (.loop (rec (if jump.isNone then .ready else .done) jump))).heap[w.heap.size + 1]? = some (.loop (rec (if jump.isNone then .ready else .done) jump)) ∧
          (W3.putObj (w.heap.size + 1) (.loop (rec (if jump.isNone then .ready else .done) jump))).heap[w.heap.size]? = some (.deferred (some [])) := fun jump W3 hk3 => by
        have hl3 := hk3.same _ _ (by omega) hl2 rfl
        have := run_endRound (P := P) jump hl3
        rw [hrec] at this ⊢
        exact ⟨this, by rw [hrec] at hl3; exact hl3, World.putObj_heap_same (Array.getElem?_eq_some_iff.1 hl3).1, (World.putObj_heap_other (by omega)).trans (hk3.same _ _ (Nat.le_refl _) hk2 rfl)⟩
      rintro e a3 W3 hp
      cases e with
      | normal =>
        obtain ⟨hk3, hkp3, hi3⟩ := hp
        obtain ⟨hr, hl3, hl4, hk4⟩ := fin none W3 hk3
        exact ⟨_, _, hr, .inl ⟨rfl, ⟨hI.putObj _ hi3 (by omega) hl3 rfl, hl4, hk4⟩, hKt (hKt hw2 hkp3) (hKb _ _ _ _ (by omega) hl3)⟩⟩
      | ret =>
        obtain ⟨hk3, hi3⟩ := hp
        obtain ⟨hr, hl3, hl4, hk4⟩ := fin (some .ret) W3 hk3
        exact ⟨_, _, hr, .inr ⟨rfl, .ret, (hIx _).putObj _ hi3 (by omega) hl3 rfl, hl4, hk4⟩⟩
      | exit id =>
        obtain ⟨hk3, hi3⟩ := hp
        obtain ⟨hr, hl3, hl4, hk4⟩ := fin (some (.exit id)) W3 hk3
        exact ⟨_, _, hr, .inr ⟨rfl, .exit id, (hIx _).putObj _ hi3 (by omega) hl3 rfl, hl4, hk4⟩⟩
      | goto t =>
        obtain ⟨hk3, hi3⟩ := hp
        obtain ⟨hr, hl3, hl4, hk4⟩ := fin (some (.goto t)) W3 hk3
        exact ⟨_, _, hr, .inr ⟨rfl, .goto t, (hIx _).putObj _ hi3 (by omega) hl3 rfl, hl4, hk4⟩⟩
      | panic ch => exact hp.elim
      | outgrown => exact hp.elim
    · rintro e W2 ⟨⟨v, rfl⟩, (⟨xs, hS, hi, hl, hk⟩ | ⟨pre, hSp, c, hi, hl, hk⟩)⟩
      · exact ⟨none, _, by have := run_endLoop (P := P) hl (by rw [hrec]; simp); rw [hrec] at this; exact this, hdone _ xs _ (Nat.le_refl _) hS (hI.putObj _ hi (by omega) hl rfl) ((World.putObj_heap_other (by omega)).trans hk)⟩
      · exact ⟨some c, _, by have := run_endLoop (P := P) hl (by rw [hrec]; simp); rw [hrec] at this; exact this, hstop _ c pre _ (Nat.le_refl _) hSp ((hIx c).putObj _ hi (by omega) hl rfl) ((World.putObj_heap_other (by omega)).trans hk)⟩
set_option maxRecDepth 100000 in
set_option maxHeartbeats 1000000 in
theorem split1S_in (n : Nat) (hn : 1 ≤ n) (l b1 b2 b3 : Nat) (h12 : b1 ≠ b2) (h13 : b1 ≠ b3) (s : ByteArray) (hs : s.size ≤ 1073741824) (J Jx : List ByteArray → World → Prop)
    (hJs : ∀ p A v, J p A → J p (A.setCell ⟨b1, 0, none⟩ v))
    (hY : ∀ pre x W1, J pre W1 → (∃ r, cutS 10 s = pre ++ x :: r) → YieldAt Fence.wide (n - 1) Tryz.prog l #[.string x] W1 fun e W' => (e = .returned (.bool true) ∧ J (pre ++ [x]) W' ∧ KeepBoxes b1 b2 b3 W1 W') ∨ (e = .returned (.bool false) ∧ Jx (pre ++ [x]) W'))
    (W : World) (hb1 : Boxed W b1 9 (.string s)) (hb2 : Boxed W b2 9 (.string ⟨#[10]⟩)) (hb3 : Boxed W b3 3 (.int .i64 0)) (h0 : J [] W) :
    CallsIn Fence.wide n Tryz.prog 182 #[.func (.yield l) #[] #[], .pointer (some ⟨b2, 0, none⟩), .pointer (some ⟨b1, 0, none⟩), .pointer (some ⟨b3, 0, none⟩)] W fun e W' => (∃ v, e = .returned v) ∧ ((∃ xs, xs = cutS 10 s ∧ J xs W') ∨ (∃ pre, (∃ r, cutS 10 s = pre ++ r) ∧ Jx pre W')) := by
  have hc2 := hb2.cell
  refine callsIn_of_wp Tryz.func182 rfl trivial ?_ rfl
  simp only [Tryz.ntmps182, List.size_toArray, List.length_cons, List.length_nil, Nat.reduceAdd, Nat.reduceSub, Array.replicate_succ, Array.replicate_zero, List.push_toArray, List.append_toArray, List.nil_append, List.cons_append]
  gi_wp2
  gi_loopw [7] (fun _ wr => ∃ (pre : List ByteArray) (r : ByteArray), Boxed wr b1 9 (.string r) ∧ Boxed wr b2 9 (.string ⟨#[10]⟩) ∧ Boxed wr b3 3 (.int .i64 0) ∧ cutS 10 s = pre ++ cutS 10 r ∧ r.size ≤ s.size ∧ J pre wr)
    (fun _ wr => boxLen wr b1)
  case atStart => exact ⟨[], s, hb1, hb2, hb3, rfl, Nat.le_refl _, h0⟩
  case round =>
    obtain ⟨pre, r, g1, g2, g3, hcut, hsz, hJ⟩ := hrel
    have c1 := g1.cell
    have c2 := g2.cell
    have c3 := g3.cell
    have f1 := g1.frozen
    rcases idxS_cases r with ⟨hi, hno⟩ | ⟨p, t, hr, hp, hi⟩
    · have HC : Hid (cutS 10 s = pre ++ [r]) := by rw [hcut, cutS_miss hno]; rfl
      obtain ⟨fn, tmps, assign, body, hy, hR⟩ := hY pre r wr hJ ⟨[], HC.out⟩
      clear hcut hno
      gi_wp2_with (refine ⟨trivial, ?_⟩; gi_at_call 184; refine (callsIn_wide.2 (index_any _ _)).mono ?_; rintro e w' ⟨rfl, rfl⟩)
      refine hR.mono ?_
      rintro e W3 (⟨rfl, hJ3, hk3⟩ | ⟨rfl, hJ3⟩)
      · gi_wp2
        go_end0
        exact ⟨⟨_, rfl⟩, .inl ⟨_, HC.out.symm, hJ3⟩⟩
      · gi_wp2
        go_end0
        exact ⟨⟨_, rfl⟩, .inr ⟨_, ⟨[], by rw [List.append_nil]; exact HC.out⟩, hJ3⟩⟩
    · have hrs : r.size = p.length + (t.length + 1) := by rw [← size_list r, hr]; simp
      have HC : Hid (cutS 10 s = (pre ++ [r.extract 0 p.length]) ++ cutS 10 (r.extract (p.length + 1) r.size)) := by
        unfold Hid
        rw [hcut, cutS_hit hr hp, List.append_assoc]; rfl
      have hsz2 : (r.extract (p.length + 1) r.size).size ≤ s.size := by simp; omega
      have hsz3 : (r.extract (p.length + 1) r.size).size < r.size := by simp; omega
      have hpl : p.length < r.size := by omega
      have HR : Hid (r.size = p.length + (t.length + 1)) := hrs
      obtain ⟨fn, tmps, assign, body, hy, hR⟩ := hY pre (r.extract 0 p.length) wr hJ ⟨_, by rw [HC.out, List.append_assoc]; rfl⟩
      clear hcut hr hp hrs
      gi_wp2_with (refine ⟨trivial, ?_⟩; gi_at_call 184; refine (callsIn_wide.2 (index_any _ _)).mono ?_; rintro e w' ⟨rfl, rfl⟩)
      refine hR.mono ?_
      rintro e W3 (⟨rfl, hJ3, hk3⟩ | ⟨rfl, hJ3⟩)
      · have k1 : Boxed W3 b1 9 (.string r) := (hk3 b1 (.inl rfl)).trans g1
        have k2 : Boxed W3 b2 9 (.string ⟨#[10]⟩) := (hk3 b2 (.inr (.inl rfl))).trans g2
        have k3 : Boxed W3 b3 3 (.int .i64 0) := (hk3 b3 (.inr (.inr rfl))).trans g3
        have d1 := k1.cell
        have d2 := k2.cell
        have d3 := k3.cell
        have e1 := k1.frozen
        gi_wp2
        go_roundw
        case rel => exact ⟨_, _, k1.set _, k2.kept (grownBy_setCell' W3 b1 _) (fun e => h12 (Option.some.inj e).symm), k3.kept (grownBy_setCell' W3 b1 _) (fun e => h13 (Option.some.inj e).symm), HC.out, hsz2, hJs _ _ _ hJ3⟩
        case measure => rw [boxLen_of (k1.set _), boxLen_of g1]; exact hsz3
      · gi_wp2
        refine bodyPost_ret (results_none rfl _ _ _) rfl ?_
        exact ⟨⟨_, rfl⟩, .inr ⟨_, ⟨_, HC.out⟩, hJ3⟩⟩
theorem split_seqS (n : Nat) (hn : 1 ≤ n) (b1 b2 b3 : Nat) (h12 : b1 ≠ b2) (h13 : b1 ≠ b3) (s : ByteArray) (hs : s.size ≤ 1073741824) (w : World) (hb1 : Boxed w b1 9 (.string s)) (hb2 : Boxed w b2 9 (.string ⟨#[10]⟩)) (hb3 : Boxed w b3 3 (.int .i64 0)) :
    SeqBoxS Fence.wide n Tryz.prog 182 #[.pointer (some ⟨b2, 0, none⟩), .pointer (some ⟨b1, 0, none⟩), .pointer (some ⟨b3, 0, none⟩)] (fun x : ByteArray => #[Value.string x]) (KeepBoxes b1 b2 b3) (fun xs => xs = cutS 10 s) (fun pre => ∃ r, cutS 10 s = pre ++ r) (fun pre x => ∃ r, cutS 10 s = pre ++ x :: r) b1 w :=
  fun l J Jx W hW hJs hY h0 => split1S_in n hn l b1 b2 b3 h12 h13 s hs J Jx hJs hY W ((hW.block b1 hb1.lt).trans hb1) ((hW.block b2 hb2.lt).trans hb2) ((hW.block b3 hb3.lt).trans hb3) h0
end Go.Proofs.YtfemboojdablhaaGreatDoor.Ten
