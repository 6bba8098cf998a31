/- Merged: ErA, ErB, ErC, ErD. -/
import Derived.Test.YtdlljlmgoiobpaaGreatDoorABld
import Derived.WalkLawsBesides
import Derived.Deep.RegionHeld3
import Derived.WalkSpells
import Derived.Deep.LoopGhost
import Derived.Deep.Cut
/- The reader of expressions: what it holds, throw, take, digit, want. -/
namespace Go.Proofs.YtdlljlmgoiobpaaGreatDoor
open Go.RowKit Go.Maps

/-- What is thrown. -/
def thrown (e p : Int) : List PanicEntry := [{ v := .iface 40 (.agg #[.int .i64 e, .int .i64 p]), recovered := false }]
set_option maxRecDepth 100000 in
theorem throw_any (e p : Int) (w : World) : Calls Tryz.prog 19 #[.int .i64 e, .int .i64 p] w fun r w' => r = .panicked (thrown e p) ∧ w' = w := by
  go_enter Tryz.func19, Tryz.ntmps19
  go_wp2
  exact ⟨rfl, rfl, rfl⟩
/-- The reader's own block. -/
def RdB (W : World) (b : Nat) (s : ByteArray) (i d : Nat) : Prop := W.heap[b]? = some (.cells #[.string s, .int .i64 (i : Int), .int .i64 (d : Int)] 68 (0, 0))
theorem RdB.cells {W : World} {b : Nat} {s : ByteArray} {i d : Nat} (h : RdB W b s i d) : W.cell? ⟨b, 0, none⟩ = some (.string s) ∧ W.cell? ⟨b, 1, none⟩ = some (.int .i64 (i : Int)) ∧ W.cell? ⟨b, 2, none⟩ = some (.int .i64 (d : Int)) ∧ ∀ j, W.frozen? ⟨b, j, none⟩ = false := by
  unfold RdB at h
  simp [World.cell?, World.frozen?, h]
theorem RdB.at_ {W : World} {b : Nat} {s : ByteArray} {i d : Nat} (h : RdB W b s i d) (j : Nat) : RdB (W.setCell ⟨b, 1, none⟩ (.int .i64 (j : Int))) b s j d := by
  obtain ⟨hl, hk⟩ := Array.getElem?_eq_some_iff.1 h
  unfold RdB
  show (W.heap.modify b _)[b]? = _
  rw [Array.getElem?_eq_getElem (by rw [Array.size_modify]; exact hl), Array.getElem_modify_self, hk]
  rfl
/-- What a call on the reader leaves alone: all that lay, but the reader's own block. -/
structure FrE (b : Nat) (W W' : World) : Prop where
  os : W'.os = W.os
  tape : W'.tape = W.tape
  output : W'.output = W.output
  size : W.heap.size ≤ W'.heap.size
  block : ∀ k, k < W.heap.size → k ≠ b → W'.heap[k]? = W.heap[k]?
theorem FrE.refl (b : Nat) (W : World) : FrE b W W := ⟨rfl, rfl, rfl, Nat.le_refl _, fun _ _ _ => rfl⟩
theorem FrE.trans {b : Nat} {A B C : World} (h : FrE b A B) (k : FrE b B C) : FrE b A C := ⟨k.os.trans h.os, k.tape.trans h.tape, k.output.trans h.output, Nat.le_trans h.size k.size, fun j hj hne => (k.block j (Nat.lt_of_lt_of_le hj h.size) hne).trans (h.block j hj hne)⟩
theorem FrE.set (b : Nat) (W : World) (j : Nat) (v : Value) : FrE b W (W.setCell ⟨b, j, none⟩ v) := by
  refine ⟨rfl, rfl, rfl, ?_, fun k _ hk => ?_⟩
  · show W.heap.size ≤ (W.heap.modify _ _).size
    rw [Array.size_modify]; exact Nat.le_refl _
  · show (W.heap.modify b _)[k]? = _
    rw [Array.getElem?_modify, if_neg (fun e => hk e.symm)]
/-- Where the reader stands behind take, and what take answers. -/
def takeI (o : Option UInt8) (c : UInt8) (i : Nat) : Nat := if o = some c then i + 1 else i
def takeB (o : Option UInt8) (c : UInt8) : Bool := o == some c
theorem take_yes {o : Option UInt8} {c : UInt8} (h : o = some c) (i : Nat) : takeI o c i = i + 1 ∧ takeB o c = true := by subst h; exact ⟨if_pos rfl, by simp [takeB]⟩
theorem take_no {o : Option UInt8} {c : UInt8} (h : ¬ o = some c) (i : Nat) : takeI o c i = i ∧ takeB o c = false := ⟨if_neg h, beq_eq_false_iff_ne.2 h⟩
set_option maxRecDepth 100000 in
set_option maxHeartbeats 1000000 in
theorem take_any (b : Nat) (s : ByteArray) (i d : Nat) (c : UInt8) (w : World) (h : RdB w b s i d) (hi : i ≤ s.size) (hs : s.size ≤ 200) :
    Calls Tryz.prog 30 #[.pointer (some ⟨b, 0, none⟩), .int .u8 (c.toNat : Int)] w fun e w' => e = .returned (.bool (takeB s.data.toList[i]? c)) ∧ RdB w' b s (takeI s.data.toList[i]? c i) d ∧ FrE b w w' := by
  obtain ⟨c0, c1, c2, cf⟩ := h.cells
  have f1 := cf 1
  by_cases hlt : i < s.size
  · have hiI : (i : Int) < (s.size : Int) := by omega
    have hge : s.data.toList[i]? = some s[i] := by rw [List.getElem?_eq_getElem (by simpa using hlt)]; rfl
    by_cases hc : s[i] = c
    · have hb : ((s[i].toNat : Int) == (c.toNat : Int)) = true := by rw [hc]; simp
      have HR := hide (⟨h, hge, hc⟩ : _ ∧ _ ∧ _)
      clear h hge hc cf c2
      go_enter Tryz.func30, Tryz.ntmps30
      go_wp2
      go_region
      go_wp2
      go_ret
      obtain ⟨h, hge, hc⟩ := HR.out
      have e1 : s.data.toList[i]? = some c := by rw [hge, hc]
      obtain ⟨e2, e3⟩ := take_yes e1 i
      rw [e2, e3]
      refine ⟨rfl, ?_, ⟨rfl, rfl, rfl, (FrE.set b w 1 (.int .i64 ((i : Int) + 1))).size, (FrE.set b w 1 (.int .i64 ((i : Int) + 1))).block⟩⟩
      exact h.at_ (i + 1)
    · have hb : ((s[i].toNat : Int) == (c.toNat : Int)) = false := by
        rw [beq_eq_false_iff_ne]; intro e; exact hc (UInt8.toNat_inj.1 (by omega))
      have HR := hide (⟨h, hge, hc⟩ : _ ∧ _ ∧ _)
      clear h hge hc cf c2
      go_enter Tryz.func30, Tryz.ntmps30
      go_wp2
      go_region
      go_wp2
      go_ret
      obtain ⟨h, hge, hc⟩ := HR.out
      have e1 : ¬ s.data.toList[i]? = some c := by rw [hge]; intro e; exact hc (Option.some.inj e)
      obtain ⟨e2, e3⟩ := take_no e1 i
      rw [e2, e3]
      exact ⟨rfl, h, ⟨rfl, rfl, rfl, Nat.le_refl _, fun _ _ _ => rfl⟩⟩
  · have hiI : ¬ ((i : Int) < (s.size : Int)) := by omega
    have hge : s.data.toList[i]? = none := List.getElem?_eq_none (by simp; omega)
    have HR := hide (⟨h, hge⟩ : _ ∧ _)
    clear h hge cf c2
    go_enter Tryz.func30, Tryz.ntmps30
    go_wp2
    go_region
    go_wp2
    go_ret
    obtain ⟨h, hge⟩ := HR.out
    obtain ⟨e2, e3⟩ := take_no (o := s.data.toList[i]?) (c := c) (by rw [hge]; simp) i
    rw [e2, e3]
    exact ⟨rfl, h, ⟨rfl, rfl, rfl, Nat.le_refl _, fun _ _ _ => rfl⟩⟩
/-- What a digit is. -/
def digB (o : Option UInt8) : Bool := match o with
  | some c => decide (48 ≤ c.toNat) && decide (c.toNat ≤ 57)
  | none => false
set_option maxRecDepth 100000 in
set_option maxHeartbeats 1000000 in
theorem digit_any (b : Nat) (s : ByteArray) (i d : Nat) (w : World) (h : RdB w b s i d) (hi : i ≤ s.size) :
    Calls Tryz.prog 80 #[.pointer (some ⟨b, 0, none⟩)] w fun e w' => e = .returned (.bool (digB s.data.toList[i]?)) ∧ w' = w.drew := by
  obtain ⟨c0, c1, c2, cf⟩ := h.cells
  by_cases hlt : i < s.size
  · have hiI : (i : Int) < (s.size : Int) := by omega
    have hge : s.data.toList[i]? = some s[i] := by rw [List.getElem?_eq_getElem (by simpa using hlt)]; rfl
    by_cases h1 : 48 ≤ s[i].toNat
    · have hb1 : decide ((48 : Int) ≤ (s[i].toNat : Int)) = true := decide_eq_true (by omega)
      by_cases h9 : s[i].toNat ≤ 57
      · have hb9 : decide ((s[i].toNat : Int) ≤ 57) = true := decide_eq_true (by omega)
        have HR := hide (⟨hge, h1, h9⟩ : _ ∧ _ ∧ _)
        clear h hge cf c2 h1 h9
        go_enter Tryz.func80, Tryz.ntmps80
        go_wp2
        go_region
        go_wp2
        go_ret
        obtain ⟨hge, h1, h9⟩ := HR.out
        exact ⟨by rw [hge]; simp [digB, h1, h9], rfl⟩
      · have hb9 : decide ((s[i].toNat : Int) ≤ 57) = false := decide_eq_false (by omega)
        have HR := hide (⟨hge, h1, h9⟩ : _ ∧ _ ∧ _)
        clear h hge cf c2 h1 h9
        go_enter Tryz.func80, Tryz.ntmps80
        go_wp2
        go_region
        go_wp2
        go_ret
        obtain ⟨hge, h1, h9⟩ := HR.out
        exact ⟨by rw [hge]; simp [digB, h9], rfl⟩
    · have hb1 : decide ((48 : Int) ≤ (s[i].toNat : Int)) = false := decide_eq_false (by omega)
      have HR := hide (⟨hge, h1⟩ : _ ∧ _)
      clear h hge cf c2 h1
      go_enter Tryz.func80, Tryz.ntmps80
      go_wp2
      go_region
      go_wp2
      go_ret
      obtain ⟨hge, h1⟩ := HR.out
      exact ⟨by rw [hge]; simp [digB, h1], rfl⟩
  · have hiI : ¬ ((i : Int) < (s.size : Int)) := by omega
    have hge : s.data.toList[i]? = none := List.getElem?_eq_none (by simp; omega)
    have HR := hide hge
    clear h hge cf c2
    go_enter Tryz.func80, Tryz.ntmps80
    go_wp2
    go_region
    go_wp2
    go_ret
    exact ⟨by rw [HR.out]; rfl, rfl⟩
/-- What want answers: it goes past the byte, or throws. -/
def WantP (b : Nat) (s : ByteArray) (i d : Nat) (c : UInt8) (w : World) (e : Ending) (w' : World) : Prop := (s.data.toList[i]? = some c ∧ e = .returned (.tuple #[]) ∧ RdB w' b s (i + 1) d ∧ FrE b w w') ∨ (s.data.toList[i]? ≠ some c ∧ (∃ p, e = .panicked (thrown 2 p)) ∧ FrE b w w')
set_option maxRecDepth 100000 in
set_option maxHeartbeats 1000000 in
theorem want_any (b : Nat) (s : ByteArray) (i d : Nat) (c : UInt8) (w : World) (h : RdB w b s i d) (hi : i ≤ s.size) (hs : s.size ≤ 200) :
    Calls Tryz.prog 72 #[.pointer (some ⟨b, 0, none⟩), .int .u8 (c.toNat : Int)] w (WantP b s i d c w) := by
  have ht := take_any b s i d c w h hi hs
  clear h
  by_cases hc : s.data.toList[i]? = some c
  · obtain ⟨e2, e3⟩ := take_yes hc i
    rw [e2, e3] at ht
    clear e2 e3
    have HC := hide hc
    clear hc
    go_enter Tryz.func72, Tryz.ntmps72
    go_wp2_with (go_at_call 30; refine ht.mono ?_; rintro e w1 ⟨rfl, hr, hf⟩)
    exact ⟨rfl, _, results_none rfl _ _ _, .inl ⟨HC.out, rfl, hr, hf⟩⟩
  · obtain ⟨e2, e3⟩ := take_no hc i
    rw [e2, e3] at ht
    have HC := hide hc
    clear hc e2 e3
    go_enter Tryz.func72, Tryz.ntmps72
    go_wp2_with first
      | (go_at_call 30; refine ht.mono ?_; rintro e w1 ⟨rfl, hr, hf⟩; obtain ⟨c0, c1, c2, cf⟩ := hr.cells; have HR := hide hf; clear hr hf cf)
      | (go_at_call 19; refine (throw_any _ _ _).mono ?_; rintro e w2 ⟨rfl, hw⟩; rw [hw]; clear hw)
    exact ⟨rfl, .inr ⟨HC.out, ⟨_, rfl⟩, HR.out⟩⟩
end Go.Proofs.YtdlljlmgoiobpaaGreatDoor
/- Numbers of one to three digits: the program's Number and the document's. -/
namespace Go.Proofs.YtdlljlmgoiobpaaGreatDoor
open Go.RowKit

/-! ### Plain numbers: what a text of digits means. -/
def dstep (n : Int) (c : UInt8) : Int := 10 * n + ((c.toNat : Int) - 48)
def dval (l : List UInt8) : Int := l.foldl dstep 0
def isD (c : UInt8) : Bool := decide (48 ≤ (c.toNat : Int) ∧ (c.toNat : Int) ≤ 57)
def good (l : List UInt8) : Bool := l.all isD && decide (1 ≤ l.length ∧ l.length ≤ 3)
def numI (l : List UInt8) : Int := if good l then dval l else 0
def numJ (l : List UInt8) : Int := if good l then dval l else -1
def gB (s : ByteArray) : Bool := good s.data.toList
def nI (s : ByteArray) : Int := numI s.data.toList
def nJ (s : ByteArray) : Int := numJ s.data.toList

theorem dval_snoc (l : List UInt8) (c : UInt8) : dval (l ++ [c]) = 10 * dval l + ((c.toNat : Int) - 48) := by
  unfold dval; rw [List.foldl_append]; rfl

theorem fold_bd (l : List UInt8) : ∀ a : Int, 0 ≤ a → l.all isD = true → 0 ≤ l.foldl dstep a ∧ l.foldl dstep a + 1 ≤ (a + 1) * 10 ^ l.length := by
  induction l with
  | nil => intro a h _; simp; omega
  | cons c t ih =>
    intro a h hd
    simp only [List.all_cons, Bool.and_eq_true] at hd
    have h1 : 48 ≤ (c.toNat : Int) ∧ (c.toNat : Int) ≤ 57 := by simpa [isD] using hd.1
    have h2 : 0 ≤ dstep a c := by unfold dstep; omega
    have := ih (dstep a c) h2 hd.2
    refine ⟨this.1, Int.le_trans this.2 ?_⟩
    have h3 : dstep a c + 1 ≤ (a + 1) * 10 := by unfold dstep; omega
    have h4 : (0 : Int) ≤ 10 ^ t.length := by exact Int.le_of_lt (Int.pow_pos (by omega))
    have h5 := Int.mul_le_mul_of_nonneg_right h3 h4
    rw [List.length_cons, Int.pow_succ, Int.mul_comm (10 ^ t.length : Int) 10, ← Int.mul_assoc]
    exact h5

theorem dval_bd (l : List UInt8) (h : l.all isD = true) (hl : l.length ≤ 9) : 0 ≤ dval l ∧ dval l ≤ 999999999 := by
  have := fold_bd l 0 (by omega) h
  refine ⟨this.1, ?_⟩
  have h2 : (10 : Int) ^ l.length ≤ 10 ^ 9 := by
    have : (10 : Nat) ^ l.length ≤ 10 ^ 9 := Nat.pow_le_pow_right (by omega) hl
    exact_mod_cast this
  have h3 := this.2
  unfold dval
  have : (10 : Int) ^ 9 = 1000000000 := by decide
  omega

theorem take_snoc (s : ByteArray) (k : Nat) (h : k < s.size) : s.data.toList.take (k + 1) = s.data.toList.take k ++ [s[k]] := by
  rw [List.take_succ_eq_append_getElem (by simpa using h)]; rfl
theorem len_data (s : ByteArray) : s.data.toList.length = s.size := by simp

theorem good_no_of (s : ByteArray) (k : Nat) (h : k < s.size) (hd : isD s[k] = false) : good s.data.toList = false := by
  have hm : s[k] ∈ s.data.toList := by
    have : s.data.toList[k]'(by simpa using h) = s[k] := rfl
    rw [← this]; exact List.getElem_mem _
  unfold good
  have : s.data.toList.all isD = false := by
    rw [List.all_eq_false]; exact ⟨_, hm, by simp [hd]⟩
  rw [this]; rfl
theorem good_no_short (s : ByteArray) (h : s.size = 0 ∨ 3 < s.size) : good s.data.toList = false := by
  unfold good
  have : decide (1 ≤ s.data.toList.length ∧ s.data.toList.length ≤ 3) = false := by
    rw [len_data]; simp; omega
  rw [this]; simp
theorem good_yes (s : ByteArray) (h1 : 1 ≤ s.size) (h9 : s.size ≤ 3) (hd : s.data.toList.all isD = true) : good s.data.toList = true := by
  unfold good; rw [hd, len_data]; simp; omega
theorem numI_no {l : List UInt8} (h : good l = false) : numI l = 0 := by unfold numI; rw [h]; rfl
theorem numI_yes {l : List UInt8} (h : good l = true) : numI l = dval l := by unfold numI; rw [h]; rfl
theorem numJ_no {l : List UInt8} (h : good l = false) : numJ l = -1 := by unfold numJ; rw [h]; rfl
theorem numJ_yes {l : List UInt8} (h : good l = true) : numJ l = dval l := by unfold numJ; rw [h]; rfl
theorem ret2_no {s : ByteArray} (h : good s.data.toList = false) : Ending.returned (.tuple #[.int .i64 0, .bool false]) = .returned (.tuple #[.int .i64 (nI s), .bool (gB s)]) := by unfold nI gB; rw [numI_no h, h]
theorem ret2_yes {s : ByteArray} (h : good s.data.toList = true) : Ending.returned (.tuple #[.int .i64 (dval s.data.toList), .bool true]) = .returned (.tuple #[.int .i64 (nI s), .bool (gB s)]) := by unfold nI gB; rw [numI_yes h, h]
theorem ret1_no {s : ByteArray} (h : good s.data.toList = false) : Ending.returned (.int .i64 (-1)) = .returned (.int .i64 (nJ s)) := by unfold nJ; rw [numJ_no h]
theorem ret1_yes {s : ByteArray} (h : good s.data.toList = true) : Ending.returned (.int .i64 (dval s.data.toList)) = .returned (.int .i64 (nJ s)) := by unfold nJ; rw [numJ_yes h]
theorem isD_no {c : UInt8} (h : (c.toNat : Int) < 48 ∨ 57 < (c.toNat : Int)) : isD c = false := by unfold isD; simp; omega
theorem isD_yes {c : UInt8} (h : 48 ≤ (c.toNat : Int)) (h2 : (c.toNat : Int) ≤ 57) : isD c = true := by unfold isD; simp; omega
theorem take_all (s : ByteArray) : s.data.toList.take s.size = s.data.toList := List.take_of_length_le (by simp)

set_option maxHeartbeats 400000 in
theorem refnum3_size (s : ByteArray) (w : World) (hs : s.size ≤ maxLen) (h : s.size = 0 ∨ 3 < s.size) :
    Calls Tryz.prog 71 #[.string s, .int .i64 3] w fun e w' => e = .returned (.int .i64 (nJ s)) ∧ w' = w := by
  unfold maxLen at hs
  have hg : Hid (good s.data.toList = false) := good_no_short s h
  rcases h with h | h
  · have h0 : (s.size : Int) < 1 := by omega
    go_enter Tryz.func71, Tryz.ntmps71
    go_wp2
    go_ret
    exact ⟨ret1_no hg.out, rfl⟩
  · have h0 : ¬ (s.size : Int) < 1 := by omega
    go_enter Tryz.func71, Tryz.ntmps71
    go_wp2
    go_ret
    exact ⟨ret1_no hg.out, rfl⟩

set_option maxHeartbeats 400000 in
theorem refnum3_mid (s : ByteArray) (w : World) (h1 : 1 ≤ s.size) (h9 : s.size ≤ 3) :
    Calls Tryz.prog 71 #[.string s, .int .i64 3] w fun e w' => e = .returned (.int .i64 (nJ s)) ∧ w' = w := by
  have h0 : ¬ (s.size : Int) < 1 := by omega
  go_enter Tryz.func71, Tryz.ntmps71
  go_wp2
  go_loop [5, 6] (fun n r => ∃ k : Nat, k ≤ s.size ∧ r = .int .i64 k ∧ (s.data.toList.take k).all isD = true ∧ n = .int .i64 (dval (s.data.toList.take k))) (fun _ r => s.size - (intOf r).toNat)
  case atStart => exact ⟨0, Nat.zero_le _, rfl, rfl, rfl⟩
  case round =>
    obtain ⟨k, hk, rfl, hall, rfl⟩ := hrel
    have hbd := dval_bd _ hall (by simp; omega)
    have HALL : Hid ((s.data.toList.take k).all isD = true) := hall
    clear hall
    by_cases hlt : k < s.size
    · have hts := take_snoc s k hlt
      have HS : Hid (dval (s.data.toList.take (k + 1)) = 10 * dval (s.data.toList.take k) + ((s[k].toNat : Int) - 48)) := by rw [hts]; exact dval_snoc _ _
      have HA : Hid (isD s[k] = true → (s.data.toList.take (k + 1)).all isD = true) := by
        intro hd; rw [hts, List.all_append, HALL.out]; simp [hd]
      have HN : Hid (isD s[k] = false → good s.data.toList = false) := good_no_of s k hlt
      clear hts
      by_cases hlo : (s[k].toNat : Int) < 48
      · go_wp2
        go_ret
        exact ⟨ret1_no (HN.out (isD_no (.inl hlo))), rfl⟩
      · by_cases hhi : 57 < (s[k].toNat : Int)
        · have hdn : decide ((s[k].toNat : Int) ≤ 57) = false := by rw [decide_eq_false_iff_not]; omega
          go_wp2
          go_ret
          exact ⟨ret1_no (HN.out (isD_no (.inr hhi))), rfl⟩
        · have hlo' : 48 ≤ (s[k].toNat : Int) := by omega
          have hhi' : (s[k].toNat : Int) ≤ 57 := by omega
          go_wp2
          go_round
          case rel => exact ⟨k + 1, by omega, by go_num, HA.out (isD_yes hlo' hhi'), by rw [HS.out]; go_num⟩
          case measure => simp [intOf]; omega
    · obtain rfl : k = s.size := by omega
      go_wp2
      go_ret
      rw [take_all] at HALL
      rw [take_all]
      exact ⟨ret1_yes (good_yes s h1 h9 HALL.out), rfl⟩

theorem refnum3_any (s : ByteArray) (w : World) (hs : s.size ≤ maxLen) :
    Calls Tryz.prog 71 #[.string s, .int .i64 3] w fun e w' => e = .returned (.int .i64 (nJ s)) ∧ w' = w := by
  by_cases h : s.size = 0 ∨ 3 < s.size
  · exact refnum3_size s w hs h
  · exact refnum3_mid s w (by omega) (by omega)
set_option maxHeartbeats 400000 in
theorem number3_size (s : ByteArray) (w : World) (hs : s.size ≤ maxLen) (h : s.size = 0 ∨ 3 < s.size) :
    Calls Tryz.prog 81 #[.string s, .int .i64 3] w fun e w' => e = .returned (.tuple #[.int .i64 (nI s), .bool (gB s)]) ∧ w' = w := by
  unfold maxLen at hs
  have hg : Hid (good s.data.toList = false) := good_no_short s h
  rcases h with h | h
  · have h0 : ((s.size : Int) == 0) = true := by rw [beq_iff_eq]; omega
    go_enter Tryz.func81, Tryz.ntmps81
    go_wp2
    go_ret2
    exact ⟨ret2_no hg.out, rfl⟩
  · have h0 : ((s.size : Int) == 0) = false := by rw [beq_eq_false_iff_ne]; omega
    go_enter Tryz.func81, Tryz.ntmps81
    go_wp2
    go_ret2
    exact ⟨ret2_no hg.out, rfl⟩

set_option maxHeartbeats 400000 in
theorem number3_mid (s : ByteArray) (w : World) (h1 : 1 ≤ s.size) (h9 : s.size ≤ 3) :
    Calls Tryz.prog 81 #[.string s, .int .i64 3] w fun e w' => e = .returned (.tuple #[.int .i64 (nI s), .bool (gB s)]) ∧ w' = w := by
  have h0 : ((s.size : Int) == 0) = false := by rw [beq_eq_false_iff_ne]; omega
  go_enter Tryz.func81, Tryz.ntmps81
  go_wp2
  go_loop [6, 19] (fun n r => ∃ k : Nat, k ≤ s.size ∧ r = .int .i64 k ∧ (s.data.toList.take k).all isD = true ∧ n = .int .i64 (dval (s.data.toList.take k))) (fun _ r => s.size - (intOf r).toNat)
  case atStart => exact ⟨0, Nat.zero_le _, rfl, rfl, rfl⟩
  case round =>
    obtain ⟨k, hk, rfl, hall, rfl⟩ := hrel
    have hbd := dval_bd _ hall (by simp; omega)
    have HALL : Hid ((s.data.toList.take k).all isD = true) := hall
    clear hall
    by_cases hlt : k < s.size
    · have hts := take_snoc s k hlt
      have HS : Hid (dval (s.data.toList.take (k + 1)) = 10 * dval (s.data.toList.take k) + ((s[k].toNat : Int) - 48)) := by rw [hts]; exact dval_snoc _ _
      have HA : Hid (isD s[k] = true → (s.data.toList.take (k + 1)).all isD = true) := by
        intro hd; rw [hts, List.all_append, HALL.out]; simp [hd]
      have HN : Hid (isD s[k] = false → good s.data.toList = false) := good_no_of s k hlt
      clear hts
      by_cases hlo : (s[k].toNat : Int) < 48
      · go_wp2
        go_ret2
        exact ⟨ret2_no (HN.out (isD_no (.inl hlo))), rfl⟩
      · by_cases hhi : 57 < (s[k].toNat : Int)
        · go_wp2
          go_ret2
          exact ⟨ret2_no (HN.out (isD_no (.inr hhi))), rfl⟩
        · have hlo' : 48 ≤ (s[k].toNat : Int) := by omega
          have hhi' : (s[k].toNat : Int) ≤ 57 := by omega
          go_wp2
          go_round
          case rel => exact ⟨k + 1, by omega, by go_num, HA.out (isD_yes hlo' hhi'), by rw [HS.out]⟩
          case measure => simp [intOf]; omega
    · obtain rfl : k = s.size := by omega
      go_wp2
      go_ret2
      rw [take_all] at HALL
      rw [take_all]
      exact ⟨ret2_yes (good_yes s h1 h9 HALL.out), rfl⟩

theorem number3_any (s : ByteArray) (w : World) (hs : s.size ≤ maxLen) :
    Calls Tryz.prog 81 #[.string s, .int .i64 3] w fun e w' => e = .returned (.tuple #[.int .i64 (nI s), .bool (gB s)]) ∧ w' = w := by
  by_cases h : s.size = 0 ∨ 3 < s.size
  · exact number3_size s w hs h
  · exact number3_mid s w (by omega) (by omega)

end Go.Proofs.YtdlljlmgoiobpaaGreatDoor
/- The reader's number. -/
namespace Go.Proofs.YtdlljlmgoiobpaaGreatDoor
open Go.RowKit Go.Maps

/-- What a piece of reading comes to: an error's number, or what was read and where it ends. -/
inductive Res (α : Type) : Type
  | bad (e : Nat)
  | ok (x : α) (i : Nat)
/-- So many of the next three bytes are digits. -/
def digs (l : List UInt8) (i : Nat) : Nat := if digB l[i]? = true then (if digB l[i + 1]? = true then (if digB l[i + 2]? = true then 3 else 2) else 1) else 0
def numV (l : List UInt8) (i : Nat) : Int := dval ((l.drop i).take (digs l i))
def numD (l : List UInt8) (i : Nat) (least : Int) : Res Int := if digs l i = 0 then .bad 2 else if 255 < numV l i ∨ numV l i < least then .bad 3 else .ok (numV l i) (i + digs l i)
theorem digs_le (l : List UInt8) (i : Nat) : digs l i ≤ 3 := by unfold digs; split <;> (try split) <;> (try split) <;> omega
theorem digs_at {l : List UInt8} {i k : Nat} (hk : ∀ j, j < k → digB l[i + j]? = true) (hk3 : k ≤ 3) (hs : k = 3 ∨ digB l[i + k]? = false) : digs l i = k := by
  unfold digs
  match k, hk3 with
  | 0, _ =>
    have : digB l[i]? = false := by rcases hs with h | h; omega; simpa using h
    rw [this]; rfl
  | 1, _ =>
    have h0 := hk 0 (by omega)
    have : digB l[i + 1]? = false := by rcases hs with h | h; omega; exact h
    rw [Nat.add_zero] at h0
    rw [h0, this]; rfl
  | 2, _ =>
    have h0 := hk 0 (by omega)
    have h1 := hk 1 (by omega)
    have : digB l[i + 2]? = false := by rcases hs with h | h; omega; exact h
    rw [Nat.add_zero] at h0
    rw [h0, h1, this]; rfl
  | 3, _ =>
    have h0 := hk 0 (by omega)
    have h1 := hk 1 (by omega)
    have h2 := hk 2 (by omega)
    rw [Nat.add_zero] at h0
    rw [h0, h1, h2]; rfl
theorem digB_isD (c : UInt8) : digB (some c) = isD c := by
  unfold isD
  show (decide (48 ≤ c.toNat) && decide (c.toNat ≤ 57)) = _
  by_cases h : 48 ≤ c.toNat ∧ c.toNat ≤ 57
  · rw [decide_eq_true h.1, decide_eq_true h.2, decide_eq_true (by omega)]; rfl
  · rw [decide_eq_false (p := 48 ≤ (c.toNat : Int) ∧ (c.toNat : Int) ≤ 57) (by omega)]
    by_cases h1 : 48 ≤ c.toNat
    · rw [decide_eq_true h1, decide_eq_false (by omega)]; rfl
    · rw [decide_eq_false h1]; rfl
theorem digs_room {l : List UInt8} {i k : Nat} (hk : ∀ j, j < k → digB l[i + j]? = true) (hi : i ≤ l.length) : i + k ≤ l.length := by
  cases k with
  | zero => exact hi
  | succ k =>
    have := hk k (by omega)
    by_cases h : i + k < l.length
    · omega
    · rw [List.getElem?_eq_none (by omega)] at this; cases this
theorem digs_all {l : List UInt8} {i k : Nat} (hk : ∀ j, j < k → digB l[i + j]? = true) : ((l.drop i).take k).all isD = true := by
  rw [List.all_eq_true]
  intro c hc
  obtain ⟨j, hj, he⟩ := List.getElem_of_mem hc
  have hjk : j < k := by rw [List.length_take] at hj; omega
  have h1 := hk j hjk
  have h2 : l[i + j]? = some c := by
    rw [List.length_take, List.length_drop] at hj
    rw [← he, List.getElem_take, List.getElem_drop, List.getElem?_eq_getElem]
  rw [h2, digB_isD] at h1
  exact h1
def NumP (b : Nat) (s : ByteArray) (d : Nat) (o : Res Int) (w : World) (e : Ending) (w' : World) : Prop := match o with
  | .bad r => (∃ p, e = .panicked (thrown (r : Int) p)) ∧ FrE b w w'
  | .ok n j => e = .returned (.int .i64 n) ∧ RdB w' b s j d ∧ FrE b w w'
set_option maxRecDepth 100000 in
set_option maxHeartbeats 2000000 in
theorem number_any (b : Nat) (s : ByteArray) (i d : Nat) (least : Int) (w : World) (h : RdB w b s i d) (hi : i ≤ s.size) (hs : s.size ≤ 200) :
    Calls Tryz.prog 75 #[.pointer (some ⟨b, 0, none⟩), .int .i64 least] w (NumP b s d (numD s.data.toList i least) w) := by
  have hsl : s.data.toList.length = s.size := by simp
  obtain ⟨c0, c1, c2, cf⟩ := h.cells
  have HR := hide h
  clear h cf c2
  go_enter Tryz.func75, Tryz.ntmps75
  go_wp2
  go_loopg [14] 3 (fun m _ wr => ∃ k, k + m = 3 ∧ (∀ j, j < k → digB s.data.toList[i + j]? = true) ∧ RdB wr b s (i + k) d ∧ FrE b w wr)
  case atStart => exact ⟨0, rfl, fun j hj => by omega, HR.out, FrE.refl _ _⟩
  case round =>
    obtain ⟨k, hkm, hk, hr, hf⟩ := hrel
    have hroom := digs_room hk (by rw [hsl]; exact hi)
    rw [hsl] at hroom
    obtain ⟨y0, y1, y2, yf⟩ := hr.cells
    have g1 := yf 1
    have hdg := digit_any b s (i + k) d wr hr hroom
    obtain ⟨dg, hdge⟩ : ∃ dg, digB s.data.toList[i + k]? = dg := ⟨_, rfl⟩
    rw [hdge] at hdg
    obtain ⟨q, hq⟩ : ∃ q, i + k = q := ⟨_, rfl⟩
    rw [hq] at hr hroom y1 hdge
    have HK := hide (⟨hk, hr, hf, hdge, hq, hsl⟩ : _ ∧ _ ∧ _ ∧ _ ∧ _ ∧ _)
    have hqk : (q : Int) - (i : Int) = (k : Int) := by omega
    clear hk hr hf hdge yf y2 hsl hq
    by_cases hgo : dg = true ∧ k < 3
    · obtain ⟨rfl, hk3⟩ := hgo
      have hkI : (k : Int) < 3 := by omega
      go_wp2_with (go_at_call 80; refine hdg.mono ?_; rintro e w1 ⟨rfl, hw⟩; rw [hw]; clear hw)
      obtain ⟨hk, hr, hf, hdge, hq, hsl⟩ := HK.out
      go_roundg (gk - 1)
      case measure => omega
      case rel =>
        refine ⟨k + 1, by omega, fun j hj => ?_, ?_, hf.trans ⟨rfl, rfl, rfl, (FrE.set b wr 1 (.int .i64 ((q : Int) + 1))).size, (FrE.set b wr 1 (.int .i64 ((q : Int) + 1))).block⟩⟩
        · by_cases hjk : j < k
          · exact hk j hjk
          · have : j = k := by omega
            subst this
            rw [hq]; exact hdge
        · have := hr.at_ (q + 1)
          rw [show i + (k + 1) = q + 1 by omega]
          exact this
    · have hend : digs s.data.toList i = k := by
        obtain ⟨hk, hr, hf, hdge, hq, hsl⟩ := HK.out
        refine digs_at hk (by omega) ?_
        by_cases h3 : k < 3
        · right
          rw [hq, hdge]
          cases dg with
          | true => exact absurd ⟨rfl, h3⟩ hgo
          | false => rfl
        · left; omega
      have ht : (s.extract i q).data.toList = (s.data.toList.drop i).take k := by
        have hq := HK.out.2.2.2.2.1
        rw [ByteArray.data_extract, Array.toList_extract, List.extract_eq_take_drop, show q - i = k by omega]
      have hnum := fun w => number3_any (s.extract i q) w (by
        have : (s.extract i q).size = ((s.data.toList.drop i).take k).length := by rw [← ht, Array.length_toList]; rfl
        rw [this, List.length_take]
        unfold maxLen
        omega)
      have hgood : good (s.extract i q).data.toList = decide (1 ≤ k) := by
        obtain ⟨hk, hr, hf, hdge, hq, hsl⟩ := HK.out
        rw [ht]
        unfold good
        rw [digs_all hk, Bool.true_and]
        have hl : ((s.data.toList.drop i).take k).length = k := by rw [List.length_take, List.length_drop, hsl]; omega
        rw [hl, decide_eq_decide]
        omega
      have hgB : gB (s.extract i q) = decide (1 ≤ k) := hgood
      have hnI : 1 ≤ k → nI (s.extract i q) = numV s.data.toList i := fun h1 => by
        unfold nI numV
        rw [numI_yes (by rw [hgood, decide_eq_true h1]), ht, hend]
      obtain ⟨nv, hnv⟩ : ∃ nv, nI (s.extract i q) = nv := ⟨_, rfl⟩
      rw [hnv] at hnI
      rw [hgB] at hnum
      have hnum2 : ∀ w, Calls Tryz.prog 81 #[.string (s.extract i q), .int .i64 3] w fun e w' => e = .returned (.tuple #[.int .i64 nv, .bool (decide (1 ≤ k))]) ∧ w' = w := fun w => by rw [← hnv]; exact hnum w
      have HE := hide (⟨hend, hnI⟩ : _ ∧ _)
      clear hend hnI hnum hgood hgB ht hnv
      have hiq : (i : Int) ≤ (q : Int) := by omega
      have hqs : (q : Int) ≤ (s.size : Int) := by omega
      have hi0 : (0 : Int) ≤ (i : Int) := by omega
      have hkd : (dg = false) ∨ (dg = true ∧ ¬ ((k : Int) < 3)) := by
        cases dg with
        | false => exact .inl rfl
        | true => exact .inr ⟨rfl, by have : ¬ k < 3 := fun h => hgo ⟨rfl, h⟩; omega⟩
      have hfr : FrE b w wr.drew.drew := ⟨HK.out.2.2.1.os, HK.out.2.2.1.tape, HK.out.2.2.1.output, HK.out.2.2.1.size, HK.out.2.2.1.block⟩
      have hrd : RdB wr.drew.drew b s q d := HK.out.2.1
      have HF := hide (⟨hfr, hrd⟩ : _ ∧ _)
      clear hgo hfr hrd
      rcases hkd with rfl | ⟨rfl, hkI⟩
      all_goals go_wp2_with (go_at_call 80; refine hdg.mono ?_; rintro e w1 ⟨rfl, hw⟩; rw [hw]; clear hw)
      all_goals go_cut [6, 7] from 8 (fun nw ow we => nw = .int .i64 nv ∧ ow = .bool (decide (1 ≤ k)) ∧ we = wr.drew.drew)
      case first =>
        go_region_with (go_at_call 81; refine (hnum2 _).mono ?_; rintro e w2 ⟨rfl, hw⟩; rw [hw]; clear hw)
        all_goals go_wp2
        all_goals go_meet
        all_goals exact ⟨rfl, rfl, rfl⟩
      case first =>
        go_region_with (go_at_call 81; refine (hnum2 _).mono ?_; rintro e w2 ⟨rfl, hw⟩; rw [hw]; clear hw)
        all_goals go_wp2
        all_goals go_meet
        all_goals exact ⟨rfl, rfl, rfl⟩
      all_goals obtain ⟨rfl, rfl, hwe⟩ := hcut
      all_goals rw [hwe]
      all_goals clear hwe hnum2 hdg
      all_goals clear hkm
      all_goals rcases Nat.lt_or_ge k 1 with h0 | h1
      all_goals first
        | (have hkd : decide (1 ≤ k) = false := decide_eq_false (Nat.not_le.2 h0)
           rw [hkd]
           have HG := hide h0
           clear h0 hkd
           go_wp2_with (go_at_call 19; refine (throw_any _ _ _).mono ?_; rintro e w2 ⟨rfl, hw⟩; rw [hw]; clear hw)
           refine ⟨rfl, ?_⟩
           unfold numD
           rw [HE.out.1, if_pos (by have := HG.out; omega)]
           exact ⟨⟨_, rfl⟩, HF.out.1⟩)
        | (have hkd : decide (1 ≤ k) = true := decide_eq_true h1
           rw [hkd]
           have HG := hide (⟨h1, HE.out.2 h1⟩ : _ ∧ _)
           clear h1 hkd
           by_cases hb : 255 < nv
           · go_wp2_with (go_at_call 19; refine (throw_any _ _ _).mono ?_; rintro e w2 ⟨rfl, hw⟩; rw [hw]; clear hw)
             refine ⟨rfl, ?_⟩
             unfold numD
             rw [HE.out.1, if_neg (by have := HG.out.1; omega), if_pos (by rw [← HG.out.2]; exact .inl hb)]
             exact ⟨⟨_, rfl⟩, HF.out.1⟩
           · by_cases hb2 : nv < least
             · go_wp2_with (go_at_call 19; refine (throw_any _ _ _).mono ?_; rintro e w2 ⟨rfl, hw⟩; rw [hw]; clear hw)
               refine ⟨rfl, ?_⟩
               unfold numD
               rw [HE.out.1, if_neg (by have := HG.out.1; omega), if_pos (by rw [← HG.out.2]; exact .inr hb2)]
               exact ⟨⟨_, rfl⟩, HF.out.1⟩
             · go_wp2
               go_ret
               unfold numD
               rw [HE.out.1, if_neg (by have := HG.out.1; omega), if_neg (by rw [← HG.out.2]; omega), ← HG.out.2, HK.out.2.2.2.2.1]
               exact ⟨rfl, HF.out.2, HF.out.1⟩)
end Go.Proofs.YtdlljlmgoiobpaaGreatDoor
/- The reader's counted and repeater. -/
namespace Go.Proofs.YtdlljlmgoiobpaaGreatDoor
open Go.RowKit Go.Maps

/-- How often. -/
structure TimesD where
  least : Int
  most : Int
  endless : Bool
/-- What stands behind a brace. -/
def countD (l : List UInt8) (i : Nat) : Res TimesD := match numD l i 0 with
  | .bad e => .bad e
  | .ok n j =>
    if l[j]? = some 44 then
      (if l[j + 1]? = some 125 then .ok ⟨n, n, true⟩ (j + 2)
       else match numD l (j + 1) n with
        | .bad e => .bad e
        | .ok m k => if l[k]? = some 125 then .ok ⟨n, m, false⟩ (k + 1) else .bad 2)
    else if l[j]? = some 125 then .ok ⟨n, n, false⟩ (j + 1) else .bad 2
/-- A sign that says how often, if there is one. -/
def repD (l : List UInt8) (i : Nat) : Option (Res TimesD) :=
  if l[i]? = some 42 then some (.ok ⟨0, 0, true⟩ (i + 1))
  else if l[i]? = some 43 then some (.ok ⟨1, 0, true⟩ (i + 1))
  else if l[i]? = some 63 then some (.ok ⟨0, 1, false⟩ (i + 1))
  else if l[i]? = some 123 then some (countD l (i + 1))
  else none
def timesV (t : TimesD) : Value := .agg #[.int .i64 t.least, .int .i64 t.most, .bool t.endless]
end Go.Proofs.YtdlljlmgoiobpaaGreatDoor
