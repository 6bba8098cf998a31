/- readLine. -/
import Derived.Test.YtoebmpllckpjlaaDoorIgB
namespace Go.Proofs.YtoebmpllckpjlaaDoor
open Go.RowKit Go.Maps

/-- A rule. -/
structure RuleD where
  nt : Bool
  dr : Bool
  fx : Bool
  pt : ByteArray
def noRule : RuleD := ⟨false, false, false, ⟨#[]⟩⟩
def ruleV (r : RuleD) : Value := .agg #[.bool r.nt, .bool r.dr, .bool r.fx, .string r.pt]
def lineOf (l : List UInt8) : RuleD := ⟨Lib.hasPrefix l [33], Lib.hasSuffix (Lib.trimPrefix l [33]) [47], decide (0 ≤ Lib.indexByte (Lib.trimSuffix (Lib.trimPrefix l [33]) [47]) 47), bs (Lib.trimPrefix (Lib.trimSuffix (Lib.trimPrefix l [33]) [47]) [47])⟩
/-- What a line says, if it says anything. -/
def lineR (s : ByteArray) : Option RuleD :=
  if Lib.hasPrefix (cutBlanksL s.data.toList) [35] = true then none
  else if (lineOf (cutBlanksL s.data.toList)).pt.toList = [] ∨ takesP (lineOf (cutBlanksL s.data.toList)).pt = false then none
  else some (lineOf (cutBlanksL s.data.toList))
def lineV (o : Option RuleD) : Value := match o with
  | none => .tuple #[ruleV noRule, .bool false]
  | some r => .tuple #[ruleV r, .bool true]
theorem Tryd.zero28 (w : World) : (zeroValue 28).run Tryd.prog w = .ok (.agg #[.bool false, .bool false, .bool false, .string ⟨#[]⟩]) w := by kernel_rfl
def RBox (W : World) (z : Nat) (r : RuleD) : Prop := W.heap[z]? = some (.cells #[.bool r.nt, .bool r.dr, .bool r.fx, .string r.pt] 28 (0, 0))
theorem RBox.cells {W : World} {z : Nat} {r : RuleD} (h : RBox W z r) : W.cell? ⟨z, 0, none⟩ = some (.bool r.nt) ∧ W.cell? ⟨z, 1, none⟩ = some (.bool r.dr) ∧ W.cell? ⟨z, 2, none⟩ = some (.bool r.fx) ∧ W.cell? ⟨z, 3, none⟩ = some (.string r.pt) ∧ ∀ j, W.frozen? ⟨z, j, none⟩ = false := by
  unfold RBox at h
  simp [World.cell?, World.frozen?, h]
theorem rset4 {W : World} {z : Nat} {r0 : RuleD} (h : RBox W z r0) (r : RuleD) : RBox ((((W.setCell ⟨z, 0, none⟩ (.bool r.nt)).setCell ⟨z, 1, none⟩ (.bool r.dr)).setCell ⟨z, 2, none⟩ (.bool r.fx)).setCell ⟨z, 3, none⟩ (.string r.pt)) z r ∧ ∀ k, k ≠ z → ((((W.setCell ⟨z, 0, none⟩ (.bool r.nt)).setCell ⟨z, 1, none⟩ (.bool r.dr)).setCell ⟨z, 2, none⟩ (.bool r.fx)).setCell ⟨z, 3, none⟩ (.string r.pt)).heap[k]? = W.heap[k]? := by
  have st : ∀ (V : World) (cs : Array Value) (j : Nat) (v : Value), V.heap[z]? = some (.cells cs 28 (0, 0)) → (V.setCell ⟨z, j, none⟩ v).heap[z]? = some (.cells (cs.set! j v) 28 (0, 0)) := by
    intro V cs j v hV
    obtain ⟨hlt, hk⟩ := Array.getElem?_eq_some_iff.1 hV
    show (V.heap.modify z _)[z]? = _
    rw [Array.getElem?_eq_getElem (by rw [Array.size_modify]; exact hlt), Array.getElem_modify_self, hk]
    rfl
  have ot : ∀ (V : World) (j : Nat) (v : Value) (k : Nat), k ≠ z → (V.setCell ⟨z, j, none⟩ v).heap[k]? = V.heap[k]? := by
    intro V j v k hk
    show (V.heap.modify z _)[k]? = _
    rw [Array.getElem?_modify, if_neg (fun e => hk e.symm)]
  refine ⟨st _ _ 3 _ (st _ _ 2 _ (st _ _ 1 _ (st _ _ 0 _ h))), fun k hk => ?_⟩
  rw [ot _ _ _ k hk, ot _ _ _ k hk, ot _ _ _ k hk, ot _ _ _ k hk]
theorem set_other (W : World) (z j : Nat) (v : Value) {k : Nat} (hk : k ≠ z) : (W.setCell ⟨z, j, none⟩ v).heap[k]? = W.heap[k]? := by
  show (W.heap.modify z _)[k]? = _
  rw [Array.getElem?_modify, if_neg (fun e => hk e.symm)]
theorem rset3 {W : World} {z : Nat} {r0 : RuleD} (h : RBox W z r0) (r : RuleD) : RBox (((W.setCell ⟨z, 0, none⟩ (.bool r.nt)).setCell ⟨z, 1, none⟩ (.bool r.dr)).setCell ⟨z, 2, none⟩ (.bool r.fx)) z ⟨r.nt, r.dr, r.fx, r0.pt⟩ := by
  have st : ∀ (V : World) (cs : Array Value) (j : Nat) (v : Value), V.heap[z]? = some (.cells cs 28 (0, 0)) → (V.setCell ⟨z, j, none⟩ v).heap[z]? = some (.cells (cs.set! j v) 28 (0, 0)) := by
    intro V cs j v hV
    obtain ⟨hlt, hk⟩ := Array.getElem?_eq_some_iff.1 hV
    show (V.heap.modify z _)[z]? = _
    rw [Array.getElem?_eq_getElem (by rw [Array.size_modify]; exact hlt), Array.getElem_modify_self, hk]
    rfl
  exact st _ _ 2 _ (st _ _ 1 _ (st _ _ 0 _ h))
theorem below_out {B : Nat} {w W W' : World} (h : Below B w W) (hos : W'.os = W.os) (ht : W'.tape = W.tape) (ho : W'.output = W.output) (hsz : W.heap.size ≤ W'.heap.size) (hb : ∀ k, k < B → W'.heap[k]? = W.heap[k]?) : Below B w W' :=
  ⟨hos.trans h.os, ht.trans h.tape, ho.trans h.output, Nat.le_trans h.size hsz, fun k hk => (hb k hk).trans (h.block k hk)⟩
theorem rule_ret {W : World} {a : Act} {z : Nat} {r : RuleD} {b : Bool} {R : Ending → World → Prop} (h : RBox W z r) (h2 : a.tmps[2]? = some (.pointer (some ⟨z, 0, none⟩))) (h3 : a.tmps[3]? = some (.bool b)) (hd : a.defers = []) (hR : R (.returned (.tuple #[ruleV r, .bool b])) W) : bodyPost Tryd.prog Tryd.f9 R .ret a W := by
  obtain ⟨c0, c1, c2, c3, _⟩ := h.cells
  refine bodyPost_ret (v := .tuple #[ruleV r, .bool b]) ?_ hd hR
  simp [results, Tryd.results9, go_sem, h2, h3, c0, c1, c2, c3, ruleV]
theorem trimP_len (l p : List UInt8) : (Lib.trimPrefix l p).length ≤ l.length := by unfold Lib.trimPrefix; split <;> simp
theorem trimS_len (l p : List UInt8) : (Lib.trimSuffix l p).length ≤ l.length := by unfold Lib.trimSuffix; split <;> simp <;> omega
theorem blanks_len (l : List UInt8) : (cutBlanksL l).length ≤ l.length := by
  unfold cutBlanksL
  split
  · rw [List.length_take]; omega
  · exact trim_len _ _
set_option maxRecDepth 100000 in
set_option maxHeartbeats 4000000 in
theorem readLine_any (s : ByteArray) (w : World) (hs : s.size ≤ 1073741824) (hM : MaxW w) (h2 : 2 < w.heap.size) :
    Calls Tryd.prog 9 #[.string s] w fun e w' => e = .returned (lineV (lineR s)) ∧ Below w.heap.size w w' := by
  have hsl := size_list s
  have h14 : ∀ w, Calls Tryd.prog 14 #[.string s] w fun e w' => e = .returned (.string (bs (cutBlanksL s.data.toList))) ∧ w' = w := fun w => cutBlanks_any s w hs
  have hcl := blanks_len s.data.toList
  rw [hsl] at hcl
  obtain ⟨l, hl⟩ : ∃ l, cutBlanksL s.data.toList = l := ⟨_, rfl⟩
  have HL := hide (show lineR s = if Lib.hasPrefix l [35] = true then none else if (lineOf l).pt.toList = [] ∨ takesP (lineOf l).pt = false then none else some (lineOf l) by unfold lineR; rw [hl])
  rw [hl] at h14 hcl
  clear hl
  have h15 : ∀ w, Calls Tryd.prog 15 #[.string (bs l), .string ⟨#[35]⟩] w fun e w' => e = .returned (.bool (Lib.hasPrefix l [35])) ∧ w' = w := fun w => Tryd.strings_HasPrefix (bs l) ⟨#[35]⟩ w
  have h16 : ∀ w, Calls Tryd.prog 16 #[.string (bs l), .string ⟨#[33]⟩] w fun e w' => e = .returned (.tuple #[.string (bs (Lib.trimPrefix l [33])), .bool (lineOf l).nt]) ∧ w' = w := fun w => Tryd.strings_CutPrefix (bs l) ⟨#[33]⟩ w
  have h17 : ∀ w, Calls Tryd.prog 17 #[.string (bs (Lib.trimPrefix l [33])), .string ⟨#[47]⟩] w fun e w' => e = .returned (.tuple #[.string (bs (Lib.trimSuffix (Lib.trimPrefix l [33]) [47])), .bool (lineOf l).dr]) ∧ w' = w := fun w => Tryd.strings_CutSuffix (bs (Lib.trimPrefix l [33])) ⟨#[47]⟩ w (by have := trimP_len l [33]; show (⟨_⟩ : ByteArray).size ≤ _; rw [bs_size]; omega)
  have h18 : ∀ w, Calls Tryd.prog 18 #[.string (bs (Lib.trimSuffix (Lib.trimPrefix l [33]) [47])), .string ⟨#[47]⟩] w fun e w' => e = .returned (.bool (lineOf l).fx) ∧ w' = w := fun w => Tryd.strings_Contains_one (bs (Lib.trimSuffix (Lib.trimPrefix l [33]) [47])) 47 w
  have h19 : ∀ w, Calls Tryd.prog 19 #[.string (bs (Lib.trimSuffix (Lib.trimPrefix l [33]) [47])), .string ⟨#[47]⟩] w fun e w' => e = .returned (.string (lineOf l).pt) ∧ w' = w := fun w => Tryd.strings_TrimPrefix (bs (Lib.trimSuffix (Lib.trimPrefix l [33]) [47])) ⟨#[47]⟩ w
  have hpz : (lineOf l).pt.size ≤ 1073741824 := by
    show (⟨_⟩ : ByteArray).size ≤ _
    rw [bs_size]
    have a := trimP_len (Lib.trimSuffix (Lib.trimPrefix l [33]) [47]) [47]
    have b := trimS_len (Lib.trimPrefix l [33]) [47]
    have c := trimP_len l [33]
    omega
  obtain ⟨r, hr⟩ : ∃ r, lineOf l = r := ⟨_, rfl⟩
  rw [hr] at HL h16 h17 h18 h19 hpz
  obtain ⟨L, hL⟩ : ∃ L, bs l = L := ⟨_, rfl⟩
  obtain ⟨L1, hL1⟩ : ∃ L1, bs (Lib.trimPrefix l [33]) = L1 := ⟨_, rfl⟩
  obtain ⟨L2, hL2⟩ : ∃ L2, bs (Lib.trimSuffix (Lib.trimPrefix l [33]) [47]) = L2 := ⟨_, rfl⟩
  rw [hL] at h14 h15 h16
  rw [hL1] at h16 h17
  rw [hL2] at h17 h18 h19
  clear hL hL1 hL2 hr
  obtain ⟨b35, hb35⟩ : ∃ b, Lib.hasPrefix l [35] = b := ⟨_, rfl⟩
  rw [hb35] at HL h15
  clear hb35
  have hbox := World.alloc_heap_new w (.cells #[.bool false, .bool false, .bool false, .string ⟨#[]⟩] 28)
  have hal : Below w.heap.size w (w.alloc (.cells #[.bool false, .bool false, .bool false, .string ⟨#[]⟩] 28)) := (Below.refl _ _).alloc (Nat.le_refl _) _
  obtain ⟨W1, hW1⟩ : ∃ W1, w.alloc (.cells #[.bool false, .bool false, .bool false, .string ⟨#[]⟩] 28) = W1 := ⟨_, rfl⟩
  rw [hW1] at hbox hal
  have hs1 : W1.heap.size = w.heap.size + 1 := by rw [← hW1, World.size_alloc]
  have hR1 : RBox W1 w.heap.size noRule := hbox
  obtain ⟨c0, c1, c2, c3, cf⟩ := hR1.cells
  have f0 := cf 0
  have f1 := cf 1
  have f2 := cf 2
  have f3 := cf 3
  have HX := hide (⟨hR1, hal, hs1⟩ : _ ∧ _ ∧ _)
  clear hbox hR1 hal hs1 cf
  cases b35 with
  | true =>
    go_enter Tryd.func9, Tryd.ntmps9
    go_wp2_with first
      | (go_at_call 14; refine (h14 _).mono ?_; rintro e w' ⟨rfl, hw⟩; rw [hw]; clear hw)
      | (go_at_call 15; refine (h15 _).mono ?_; rintro e w' ⟨rfl, hw⟩; rw [hw]; clear hw)
    obtain ⟨hR1, hal, hs1⟩ := HX.out
    obtain ⟨hR2, ho2⟩ := rset4 hR1 noRule
    refine rule_ret hR2 rfl rfl rfl ⟨?_, below_out hal rfl rfl rfl (by simp only [set_size]; exact Nat.le_refl _) (fun k hk => ho2 k (by omega))⟩
    rw [HL.out, if_pos trivial]
    rfl
  | false =>
    have hR1 := HX.out.1
    have hal := HX.out.2.1
    have hs1 := HX.out.2.2
    have hR2 : RBox (W1.alloc (.cells #[.bool false, .bool false, .bool false, .string ⟨#[]⟩] 28)) W1.heap.size noRule := World.alloc_heap_new W1 (.cells #[.bool false, .bool false, .bool false, .string ⟨#[]⟩] 28)
    have hR12 : RBox (W1.alloc (.cells #[.bool false, .bool false, .bool false, .string ⟨#[]⟩] 28)) w.heap.size noRule := (Below.heap_alloc _ _ _ (by omega)).trans hR1
    have hal2 : Below w.heap.size w (W1.alloc (.cells #[.bool false, .bool false, .bool false, .string ⟨#[]⟩] 28)) := hal.alloc hal.size _
    have hs2 : (W1.alloc (.cells #[.bool false, .bool false, .bool false, .string ⟨#[]⟩] 28)).heap.size = w.heap.size + 2 := by rw [World.size_alloc, hs1]
    obtain ⟨W2, hW2⟩ : ∃ W2, W1.alloc (.cells #[.bool false, .bool false, .bool false, .string ⟨#[]⟩] 28) = W2 := ⟨_, rfl⟩
    rw [hW2] at hR2 hR12 hal2 hs2
    obtain ⟨e0, e1, e2, e3, ef⟩ := hR2.cells
    have g0 := ef 0
    have g1 := ef 1
    have g2 := ef 2
    have g3 := ef 3
    have HY := hide (⟨hR2, hR12, hal2, hs2⟩ : _ ∧ _ ∧ _ ∧ _)
    have hlt1 : w.heap.size < W1.heap.size := by omega
    have HS1 := hide hs1
    clear hR1 hal hR2 hR12 hal2 hs2 ef hs1 c0 c1 c2 c3 f0 f1 f2 f3
    go_enter Tryd.func9, Tryd.ntmps9
    go_wp2_with fail
    refine (h14 _).mono ?_
    rintro e w' ⟨rfl, hw⟩
    rw [hw]
    clear hw
    go_wp2_with fail
    refine (h15 _).mono ?_
    rintro e w' ⟨rfl, hw⟩
    rw [hw]
    clear hw
    go_wp2_with fail
    refine (h16 _).mono ?_
    rintro e w' ⟨rfl, hw⟩
    rw [hw]
    clear hw
    go_wp2_with fail
    refine (h17 _).mono ?_
    rintro e w' ⟨rfl, hw⟩
    rw [hw]
    clear hw
    go_wp2_with fail
    refine (h18 _).mono ?_
    rintro e w' ⟨rfl, hw⟩
    rw [hw]
    clear hw
    go_wp2_with fail
    refine (h19 _).mono ?_
    rintro e w' ⟨rfl, hw⟩
    rw [hw]
    clear hw
    obtain ⟨W5, hW5⟩ : ∃ W5, ((W2.setCell ⟨W1.heap.size, 0, none⟩ (.bool r.nt)).setCell ⟨W1.heap.size, 1, none⟩ (.bool r.dr)).setCell ⟨W1.heap.size, 2, none⟩ (.bool r.fx) = W5 := ⟨_, rfl⟩
    rw [hW5]
    have hR35 := rset3 HY.out.1 r
    rw [hW5] at hR35
    have k3 : W5.cell? ⟨W1.heap.size, 3, none⟩ = some (.string ⟨#[]⟩) := hR35.cells.2.2.2.1
    have kf : W5.frozen? ⟨W1.heap.size, 3, none⟩ = false := hR35.cells.2.2.2.2 3
    clear hR35
    obtain ⟨hR6, ho6⟩ := rset4 HY.out.1 r
    rw [hW5] at hR6 ho6
    have hal6 : Below w.heap.size w (W5.setCell ⟨W1.heap.size, 3, none⟩ (.string r.pt)) := by
      refine below_out HY.out.2.2.1 ?_ ?_ ?_ ?_ (fun k hk => ho6 k (by omega))
      · rw [← hW5]; rfl
      · rw [← hW5]; rfl
      · rw [← hW5]; rfl
      · rw [← hW5, set_size, set_size, set_size, set_size]; exact Nat.le_refl _
    have hR06 : RBox (W5.setCell ⟨W1.heap.size, 3, none⟩ (.string r.pt)) w.heap.size noRule := (ho6 _ (by omega)).trans HY.out.2.1
    have hs6 : (W5.setCell ⟨W1.heap.size, 3, none⟩ (.string r.pt)).heap.size = w.heap.size + 2 := by rw [← hW5, set_size, set_size, set_size, set_size]; exact HY.out.2.2.2
    have hR05 : RBox W5 w.heap.size noRule := by
      have : W5.heap[w.heap.size]? = W2.heap[w.heap.size]? := by
        rw [← ho6 _ (show w.heap.size ≠ W1.heap.size by omega)]
        rw [set_other _ _ _ _ (by omega)]
      exact this.trans HY.out.2.1
    obtain ⟨p0, p1, p2, p3, pf⟩ := hR05.cells
    have q0 := pf 0
    have q1 := pf 1
    have q2 := pf 2
    have q3 := pf 3
    have hne : ¬ w.heap.size = W1.heap.size := by omega
    have hne' : ¬ W1.heap.size = w.heap.size := by omega
    have HZ := hide (⟨hR6, hal6, hR06, hs6⟩ : _ ∧ _ ∧ _ ∧ _)
    clear hW5 hR6 ho6 hal6 hR06 hs6 e0 e1 e2 e3 g0 g1 g2 g3 hR05 pf
    cases hE : r.pt.toList.isEmpty with
    | true =>
      go_wp2_with fail
      obtain ⟨hR6, hal6, hR06, hs6⟩ := HZ.out
      obtain ⟨hR7, ho7⟩ := rset4 hR06 noRule
      refine rule_ret hR7 rfl rfl rfl ⟨?_, below_out hal6 rfl rfl rfl (by simp only [set_size]; exact Nat.le_refl _) (fun k hk => ho7 k (by omega))⟩
      have : r.pt.toList = [] := List.isEmpty_iff.1 hE
      rw [HL.out, if_neg (by decide), if_pos (.inl this)]
      rfl
    | false =>
      go_wp2_with fail
      obtain ⟨hR6, hal6, hR06, hs6⟩ := HZ.out
      obtain ⟨W6, hW6⟩ : ∃ W6, W5.setCell ⟨W1.heap.size, 3, none⟩ (.string r.pt) = W6 := ⟨_, rfl⟩
      rw [hW6] at hR6 hal6 hR06 hs6
      rw [hW6]
      have htp := takesParts_any r.pt W6 hpz (hM.below h2 hal6) (Nat.lt_of_lt_of_le h2 hal6.size)
      have HLT := hide (show W1.heap.size < W6.heap.size by have := HS1.out; omega)
      have HZ6 := hide (⟨hR6, hal6, hR06, hs6⟩ : _ ∧ _ ∧ _ ∧ _)
      clear hW6 k3 kf p0 p1 p2 p3 q0 q1 q2 q3 hR6 hal6 hR06 hs6
      have hEn : ¬ r.pt.toList = [] := fun e => by rw [e] at hE; cases hE
      obtain ⟨t, ht⟩ : ∃ t, takesP r.pt = t := ⟨_, rfl⟩
      rw [ht] at htp HL
      clear ht
      refine htp.mono ?_
      rintro e W7 ⟨rfl, hb7⟩
      obtain ⟨hR6, hal6, hR06, hs6⟩ := HZ6.out
      have hR7 : RBox W7 W1.heap.size r := (hb7.block _ HLT.out).trans hR6
      have hR07 : RBox W7 w.heap.size noRule := (hb7.block _ (by omega)).trans hR06
      have hal7 : Below w.heap.size w W7 := hal6.trans (hb7.mono hal6.size)
      obtain ⟨k0, k1, k2, k3, kf⟩ := hR7.cells
      obtain ⟨p0, p1, p2, p3, pf⟩ := hR07.cells
      have q0 := pf 0
      have q1 := pf 1
      have q2 := pf 2
      have q3 := pf 3
      have HV := hide (⟨hR07, hal7⟩ : _ ∧ _)
      clear hR6 hal6 hR06 hs6 hR7 hR07 hal7 pf kf hb7 HZ6 HZ HY HX
      cases t with
      | false =>
        go_wp2_with fail
        obtain ⟨hR07, hal7⟩ := HV.out
        obtain ⟨hR8, ho8⟩ := rset4 hR07 noRule
        refine rule_ret hR8 rfl rfl rfl ⟨?_, below_out hal7 rfl rfl rfl (by simp only [set_size]; exact Nat.le_refl _) (fun k hk => ho8 k (by omega))⟩
        rw [HL.out, if_neg (by decide), if_pos (by simp)]
        rfl
      | true =>
        go_wp2_with fail
        obtain ⟨hR07, hal7⟩ := HV.out
        obtain ⟨hR8, ho8⟩ := rset4 hR07 r
        refine rule_ret hR8 rfl rfl rfl ⟨?_, below_out hal7 rfl rfl rfl (by simp only [set_size]; exact Nat.le_refl _) (fun k hk => ho8 k (by omega))⟩
        rw [HL.out, if_neg (by decide), if_neg (by rintro (h | h); exact hEn h; cases h)]
        rfl
end Go.Proofs.YtoebmpllckpjlaaDoor
