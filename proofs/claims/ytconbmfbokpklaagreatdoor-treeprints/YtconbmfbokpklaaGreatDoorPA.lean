/- Merged: PrPlain, PrRef. -/
import Derived.Test.YtconbmfbokpklaaGreatDoorGLine
import Derived.Lib.ItoaNum
import Derived.Lib.Join
import Derived.Deep.AppendLies
/- What is written is read as the same. Plain. -/
namespace Go.Proofs.YtconbmfbokpklaaGreatDoor

/-! ### Signs, numbers -/
def escB (c : UInt8) : List UInt8 := if c = 92 then [92, 92] else if c = 9 then [92, 116] else if c = 10 then [92, 110] else if c = 0 then [92, 48] else [c]
def escL (l : List UInt8) : List UInt8 := l.flatMap escB
theorem escL_cons (c : UInt8) (r : List UInt8) : escL (c :: r) = escB c ++ escL r := by simp [escL]
theorem esc_field (l : List UInt8) : fieldD (escL l) = some l := by
  induction l with
  | nil => rfl
  | cons c r ih =>
    rw [escL_cons]
    unfold escB
    by_cases h1 : c = 92
    · rw [if_pos h1]; show fieldD (92 :: 92 :: escL r) = _; rw [field_esc _ (e := 92) rfl, ih, h1]; rfl
    · rw [if_neg h1]
      by_cases h2 : c = 9
      · rw [if_pos h2]; show fieldD (92 :: 116 :: escL r) = _; rw [field_esc _ (e := 9) rfl, ih, h2]; rfl
      · rw [if_neg h2]
        by_cases h3 : c = 10
        · rw [if_pos h3]; show fieldD (92 :: 110 :: escL r) = _; rw [field_esc _ (e := 10) rfl, ih, h3]; rfl
        · rw [if_neg h3]
          by_cases h4 : c = 0
          · rw [if_pos h4]; show fieldD (92 :: 48 :: escL r) = _; rw [field_esc _ (e := 0) rfl, ih, h4]; rfl
          · rw [if_neg h4]; show fieldD (c :: escL r) = _; rw [field_plain _ h4 h2 h3 h1, ih]; rfl
theorem esc_free (l : List UInt8) : (9 : UInt8) ∉ escL l ∧ (10 : UInt8) ∉ escL l := by
  induction l with
  | nil => simp [escL]
  | cons c r ih =>
    rw [escL_cons]
    have : (9 : UInt8) ∉ escB c ∧ (10 : UInt8) ∉ escB c := by
      unfold escB
      by_cases h1 : c = 92
      · rw [if_pos h1]; decide
      · rw [if_neg h1]
        by_cases h2 : c = 9
        · rw [if_pos h2]; decide
        · rw [if_neg h2]
          by_cases h3 : c = 10
          · rw [if_pos h3]; decide
          · rw [if_neg h3]
            by_cases h4 : c = 0
            · rw [if_pos h4]; decide
            · rw [if_neg h4]; simp; exact ⟨fun e => h2 e.symm, fun e => h3 e.symm⟩
    simp only [List.mem_append, not_or]
    exact ⟨⟨this.1, ih.1⟩, this.2, ih.2⟩
theorem escB_len (c : UInt8) : (escB c).length ≤ 2 := by
  unfold escB
  split
  · simp
  · split
    · simp
    · split
      · simp
      · split <;> simp
theorem esc_len (l : List UInt8) : (escL l).length ≤ 2 * l.length := by
  induction l with
  | nil => simp [escL]
  | cons c r ih => rw [escL_cons, List.length_append]; have := escB_len c; simp only [List.length_cons]; omega
theorem dig_toNat {u : Nat} (h : u < 10) : (UInt8.ofNat (48 + u)).toNat = 48 + u := by
  rw [UInt8.toNat_ofNat']; exact Nat.mod_eq_of_lt (by omega)
theorem dec_facts (u : Nat) : ((Lib.decDigits u).all isD = true) ∧ dval (Lib.decDigits u) = (u : Int) ∧ 1 ≤ (Lib.decDigits u).length := by
  induction u using Nat.strongRecOn with
  | _ u ih =>
    rw [Lib.decDigits]
    by_cases h : u < 10
    · rw [dif_pos h]
      refine ⟨?_, ?_, by simp⟩
      · simp [isD]; omega
      · show dstep 0 (UInt8.ofNat (48 + u)) = _
        unfold dstep
        rw [dig_toNat h]
        omega
    · rw [dif_neg h]
      obtain ⟨h1, h2, h3⟩ := ih (u / 10) (by omega)
      have hm : u % 10 < 10 := by omega
      refine ⟨?_, ?_, by simp⟩
      · rw [List.all_append, h1]; simp [isD]; omega
      · rw [dval_snoc, h2, dig_toNat hm]; omega
theorem dec_len {u : Nat} : ∀ k : Nat, u < 10 ^ (k + 1) → (Lib.decDigits u).length ≤ k + 1 := by
  intro k
  induction k generalizing u with
  | zero => intro h; rw [Lib.decDigits, dif_pos (by simpa using h)]; simp
  | succ k ih =>
    intro h
    rw [Lib.decDigits]
    by_cases h10 : u < 10
    · rw [dif_pos h10]; simp
    · rw [dif_neg h10, List.length_append]
      have : u / 10 < 10 ^ (k + 1) := by rw [Nat.div_lt_iff_lt_mul (by omega)]; rw [Nat.pow_succ] at h; exact h
      have := ih this
      simp; omega
/-- A number as it is written. -/
def decI (n : Int) : List UInt8 := Lib.decDigits n.toNat
theorem dec_read {n : Int} (h0 : 0 ≤ n) (h9 : n ≤ 999999999) : gB (bs (decI n)) = true ∧ nJ (bs (decI n)) = n := by
  obtain ⟨h1, h2, h3⟩ := dec_facts n.toNat
  have h4 : (Lib.decDigits n.toNat).length ≤ 9 := dec_len 8 (Nat.lt_of_le_of_lt (m := 999999999) (by omega) (by decide))
  have hg : gB (bs (decI n)) = true := by
    unfold gB good decI
    rw [data_bs, h1]
    simp
    exact ⟨h3, h4⟩
  refine ⟨hg, ?_⟩
  unfold nJ numJ
  unfold gB at hg
  rw [if_pos hg, data_bs]
  show dval (Lib.decDigits n.toNat) = n
  rw [h2]
  omega
theorem isD_free {l : List UInt8} (h : l.all isD = true) {c : UInt8} (hc : isD c = false) : c ∉ l := fun hm => by
  have := List.all_eq_true.1 h c hm
  rw [hc] at this
  cases this
theorem dec_free (n : Int) : (9 : UInt8) ∉ decI n ∧ (10 : UInt8) ∉ decI n := ⟨isD_free (dec_facts _).1 (by decide), isD_free (dec_facts _).1 (by decide)⟩
theorem dec_le (n : Int) (h : n ≤ 999999999) : (decI n).length ≤ 9 := dec_len 8 (Nat.lt_of_le_of_lt (m := 999999999) (by omega) (by decide))

/-! ### Lines -/
def fldOf (n : NodeD) : FldD := (n.kind, n.size, n.time, n.text)
/-- The fields that a line may have. -/
def FldOk (f : FldD) : Prop := ((f.1 = 100 ∨ f.1 = 120) ∧ f.2.1 = 0 ∧ f.2.2.1 = 0 ∧ f.2.2.2 = bs []) ∨
  (f.1 = 102 ∧ 0 ≤ f.2.2.1 ∧ f.2.2.1 ≤ 999999999 ∧ ((f.2.2.2 = bs [] ∧ 0 ≤ f.2.1 ∧ f.2.1 ≤ 999999999) ∨ (0 < f.2.2.2.size ∧ f.2.1 = (f.2.2.2.size : Int)))) ∨
  (f.1 = 108 ∧ f.2.1 = 0 ∧ f.2.2.1 = 0 ∧ 0 < f.2.2.2.size)
theorem size0 {s : ByteArray} (h : s.size = 0) : s = bs [] := by
  apply bs_inj
  rw [data_bs]
  exact List.eq_nil_of_length_eq_zero (by rw [len_data]; exact h)
theorem fields_ok {k : Int} {ys : List ByteArray} {f : FldD} (h : fieldsD k ys = some f) : FldOk f := by
  by_cases h1 : k = 100 ∨ k = 120
  · by_cases h0 : ys = []
    · rw [fD_d h1 h0] at h; cases h; exact .inl ⟨h1, rfl, rfl, rfl⟩
    · rw [fD_d_no h1 h0] at h; cases h
  · by_cases h2 : k = 102
    · subst h2
      by_cases hl : ys.length = 2
      · match ys, hl with
        | [a, b], _ =>
          rw [fD_f] at h
          cases ha : gB a
          · rw [ha] at h; cases h
          · cases hb : gB b
            · rw [ha, hb] at h; cases h
            · rw [ha, hb] at h
              cases h
              have := gB_bd ha
              have h3 := gB_bd hb
              exact .inr (.inl ⟨rfl, h3.1, h3.2.1, .inl ⟨rfl, this.1, this.2.1⟩⟩)
      · rw [fD_f_no hl] at h; cases h
    · by_cases h3 : k = 116
      · subst h3
        by_cases hl : ys.length = 2
        · match ys, hl with
          | [a, b], _ =>
            rw [fD_t] at h
            cases ha : gB a
            · rw [ha] at h; cases h
            · rw [ha] at h
              cases ht : textD b with
              | none => rw [ht] at h; cases h
              | some t =>
                rw [ht] at h
                cases h
                have h3 := gB_bd ha
                refine .inr (.inl ⟨rfl, h3.1, h3.2.1, ?_⟩)
                by_cases h0 : t.size = 0
                · exact .inl ⟨size0 h0, by show (0 : Int) ≤ (t.size : Int); omega, by show (t.size : Int) ≤ _; omega⟩
                · exact .inr ⟨by show 0 < t.size; omega, rfl⟩
        · rw [fD_t_no hl] at h; cases h
      · by_cases h4 : k = 108
        · subst h4
          by_cases hl : ys.length = 1
          · match ys, hl with
            | [a], _ =>
              rw [fD_l] at h
              cases ht : textD a with
              | none => rw [ht] at h; cases h
              | some t =>
                rw [ht] at h
                change (if t.size = 0 then none else some (108, 0, 0, t)) = some f at h
                by_cases h0 : t.size = 0
                · rw [if_pos h0] at h; cases h
                · rw [if_neg h0] at h
                  cases h
                  exact .inr (.inr ⟨rfl, rfl, rfl, by show 0 < t.size; omega⟩)
          · rw [fD_l_no hl] at h; cases h
        · rw [fD_none (fun e => h1 (.inl e)) (fun e => h1 (.inr e)) h2 h3 h4] at h
          cases h
theorem line_ok {y : ByteArray} {ln : LineD} (h : lineD y = some ln) : FldOk ln.fld := by
  unfold lineD at h
  split at h
  · split at h
    · rename_i k way ys _ _
      cases hf : fieldsD (headI k) ys with
      | none => rw [hf] at h; cases h
      | some f => rw [hf] at h; cases h; exact fields_ok hf
    · cases h
  · cases h

/-! ### A line as it is written -/
theorem split_joinC (c : UInt8) : ∀ (ps : List (List UInt8)), ps ≠ [] → (∀ p ∈ ps, c ∉ p) → splitL c (Lib.join ps [c]) = ps := by
  intro ps
  induction ps with
  | nil => intro h; exact absurd rfl h
  | cons p r ih =>
    intro _ hp
    cases r with
    | nil => rw [Lib.join_one]; exact split_end c p (hp p (by simp))
    | cons q qs =>
      have e : Lib.join (p :: q :: qs) [c] = p ++ c :: Lib.join (q :: qs) [c] := by
        rw [Lib.join_cons, Lib.join_cons]
        simp [Lib.joinTail]
      rw [e, split_hit c p _ (hp p (by simp)), ih (by simp) (fun x hx => hp x (by simp [hx]))]
theorem join_free {c d : UInt8} (hcd : c ≠ d) : ∀ (ps : List (List UInt8)), (∀ p ∈ ps, c ∉ p) → c ∉ Lib.join ps [d] := by
  intro ps
  induction ps with
  | nil => intro _ h; cases h
  | cons p r ih =>
    intro hp
    cases r with
    | nil => rw [Lib.join_one]; exact hp p (by simp)
    | cons q qs =>
      have e : Lib.join (p :: q :: qs) [d] = p ++ d :: Lib.join (q :: qs) [d] := by
        rw [Lib.join_cons, Lib.join_cons]
        simp [Lib.joinTail]
      rw [e]
      simp only [List.mem_append, List.mem_cons, not_or]
      exact ⟨hp p (by simp), hcd, ih (fun x hx => hp x (by simp [hx]))⟩
theorem join_len9 : ∀ (ps : List (List UInt8)) (b : Nat), (∀ p ∈ ps, p.length ≤ b) → (Lib.join ps [9]).length ≤ (b + 1) * ps.length := by
  intro ps b
  induction ps with
  | nil => intro _; simp [Lib.join_nil]
  | cons p r ih =>
    intro h
    have h1 := h p (by simp)
    have h2 := ih (fun x hx => h x (by simp [hx]))
    cases r with
    | nil => rw [Lib.join_one]; simp; omega
    | cons q qs =>
      have e : Lib.join (p :: q :: qs) [9] = p ++ 9 :: Lib.join (q :: qs) [9] := by
        rw [Lib.join_cons, Lib.join_cons]
        simp [Lib.joinTail]
      have e3 : (p :: q :: qs).length = (q :: qs).length + 1 := rfl
      have e4 : (p ++ 9 :: Lib.join (q :: qs) [9]).length = p.length + (Lib.join (q :: qs) [9]).length + 1 := by simp; omega
      rw [e, e3, e4, Nat.mul_succ]
      omega
abbrev isTx (n : NodeD) : Prop := 0 < n.text.size ∧ (n.text.size : Int) = n.size
def signL (n : NodeD) : List UInt8 := if n.kind = 102 then (if isTx n then [116] else [102]) else if n.kind = 108 then [108] else [UInt8.ofNat n.kind.toNat]
def fldsL (n : NodeD) : List (List UInt8) := if n.kind = 102 then (if isTx n then [decI n.time, escL n.text.data.toList] else [decI n.size, decI n.time]) else if n.kind = 108 then [escL n.text.data.toList] else []
def lineL (n : NodeD) (way : List UInt8) : List UInt8 := Lib.join (signL n :: way :: fldsL n) [9]
theorem flds_free (n : NodeD) : ∀ p ∈ fldsL n, (9 : UInt8) ∉ p ∧ (10 : UInt8) ∉ p := by
  intro p hp
  unfold fldsL at hp
  split at hp
  · split at hp
    · simp at hp
      rcases hp with rfl | rfl
      · exact dec_free _
      · exact esc_free _
    · simp at hp
      rcases hp with rfl | rfl
      · exact dec_free _
      · exact dec_free _
  · split at hp
    · simp at hp
      subst hp
      exact esc_free _
    · cases hp
theorem kind_ok {n : NodeD} (h : FldOk (fldOf n)) : n.kind = 100 ∨ n.kind = 120 ∨ n.kind = 102 ∨ n.kind = 108 := by
  rcases h with ⟨h | h, _⟩ | ⟨h, _⟩ | ⟨h, _⟩
  · exact .inl h
  · exact .inr (.inl h)
  · exact .inr (.inr (.inl h))
  · exact .inr (.inr (.inr h))
theorem sign100 {n : NodeD} (h : n.kind = 100) : signL n = [100] ∧ fldsL n = [] := by unfold signL fldsL; rw [h]; exact ⟨rfl, rfl⟩
theorem sign120 {n : NodeD} (h : n.kind = 120) : signL n = [120] ∧ fldsL n = [] := by unfold signL fldsL; rw [h]; exact ⟨rfl, rfl⟩
theorem sign108 {n : NodeD} (h : n.kind = 108) : signL n = [108] ∧ fldsL n = [escL n.text.data.toList] := by unfold signL fldsL; rw [h]; exact ⟨rfl, rfl⟩
theorem sign_free {n : NodeD} (h : FldOk (fldOf n)) : (9 : UInt8) ∉ signL n ∧ (10 : UInt8) ∉ signL n := by
  rcases kind_ok h with h | h | h | h
  · rw [(sign100 h).1]; decide
  · rw [(sign120 h).1]; decide
  · unfold signL; rw [if_pos h]; split <;> decide
  · rw [(sign108 h).1]; decide
theorem way_free {way : ByteArray} (h : (cutS 47 way).all nameOk = true) : (9 : UInt8) ∉ way.data.toList ∧ (10 : UInt8) ∉ way.data.toList := by
  have hp : ∀ p ∈ splitL 47 way.data.toList, (9 : UInt8) ∉ p ∧ (10 : UInt8) ∉ p := by
    intro p hp
    have := List.all_eq_true.1 h (bs p) (List.mem_map.2 ⟨p, hp, rfl⟩)
    unfold nameOk at this
    simp only [Bool.and_eq_true] at this
    have h2 := this.2
    rw [data_bs] at h2
    refine ⟨fun hm => ?_, fun hm => ?_⟩
    · have := List.all_eq_true.1 h2 _ hm; revert this; decide
    · have := List.all_eq_true.1 h2 _ hm; revert this; decide
  have key : ∀ (c : UInt8), c ≠ 47 → ∀ (ps : List (List UInt8)), (∀ p ∈ ps, c ∉ p) → c ∉ joinL ps := by
    intro c hc ps
    induction ps with
    | nil => intro _ h; cases h
    | cons p r ih =>
      intro h
      cases r with
      | nil => exact h p (by simp)
      | cons q qs =>
        show c ∉ p ++ 47 :: joinL (q :: qs)
        simp only [List.mem_append, List.mem_cons, not_or]
        exact ⟨h p (by simp), hc, ih (fun x hx => h x (by simp [hx]))⟩
  rw [← join_split way.data.toList]
  exact ⟨key 9 (by decide) _ (fun p hx => (hp p hx).1), key 10 (by decide) _ (fun p hx => (hp p hx).2)⟩
theorem line_pieces {n : NodeD} {way : ByteArray} (hf : FldOk (fldOf n)) (hw : (cutS 47 way).all nameOk = true) : ∀ p ∈ signL n :: way.data.toList :: fldsL n, (9 : UInt8) ∉ p ∧ (10 : UInt8) ∉ p := by
  intro p hp
  simp only [List.mem_cons] at hp
  rcases hp with rfl | rfl | hp
  · exact sign_free hf
  · exact way_free hw
  · exact flds_free n p hp
theorem line_free {n : NodeD} {way : ByteArray} (hf : FldOk (fldOf n)) (hw : (cutS 47 way).all nameOk = true) : (10 : UInt8) ∉ lineL n way.data.toList := join_free (by decide) _ (fun p hp => (line_pieces hf hw p hp).2)
theorem text_back (t : ByteArray) : textD (bs (escL t.data.toList)) = some t := by
  unfold textD
  rw [data_bs, esc_field]
  rfl
/-- A line that was written is read as what it was written of. -/
theorem line_back {n : NodeD} {way : ByteArray} (hf : FldOk (fldOf n)) (hw : (cutS 47 way).all nameOk = true) : lineD (bs (lineL n way.data.toList)) = some ⟨fldOf n, way⟩ := by
  have e : cutS 9 (bs (lineL n way.data.toList)) = bs (signL n) :: way :: (fldsL n).map bs := by
    unfold cutS
    rw [data_bs]
    show (splitL 9 (Lib.join (signL n :: way.data.toList :: fldsL n) [9])).map bs = _
    rw [split_joinC 9 _ (by simp) (fun p hp => (line_pieces hf hw p hp).1)]
    rfl
  unfold lineD
  rw [e]
  show (if (cutS 47 way).all nameOk = true then (fieldsD (headI (bs (signL n))) ((fldsL n).map bs)).map (fun r => (⟨r, way⟩ : LineD)) else none) = _
  rw [if_pos hw]
  have e2 : fieldsD (headI (bs (signL n))) ((fldsL n).map bs) = some (fldOf n) := by
    rcases hf with ⟨hk, h1, h2, h3⟩ | ⟨hk, h1, h2, h3⟩ | ⟨hk, h1, h2, h3⟩
    · have h1' : n.size = 0 := h1
      have h2' : n.time = 0 := h2
      have h3' : n.text = bs [] := h3
      have hk' : n.kind = 100 ∨ n.kind = 120 := hk
      have hs : headI (bs (signL n)) = n.kind ∧ fldsL n = [] := by
        rcases hk' with h | h
        · rw [(sign100 h).1, (sign100 h).2, h]; exact ⟨rfl, rfl⟩
        · rw [(sign120 h).1, (sign120 h).2, h]; exact ⟨rfl, rfl⟩
      rw [hs.1, hs.2]
      show fieldsD n.kind [] = _
      rw [fD_d hk' rfl]
      unfold fldOf
      rw [h1', h2', h3']
    · have hk' : n.kind = 102 := hk
      have h1' : 0 ≤ n.time := h1
      have h2' : n.time ≤ 999999999 := h2
      obtain ⟨t1, t2⟩ := dec_read h1' h2'
      unfold signL fldsL
      rw [if_pos hk', if_pos hk']
      rcases h3 with ⟨e1, e2, e3⟩ | ⟨e1, e2⟩
      · have e1' : n.text = bs [] := e1
        have e2' : 0 ≤ n.size := e2
        have e3' : n.size ≤ 999999999 := e3
        obtain ⟨s1, s2⟩ := dec_read e2' e3'
        have hnt : ¬ isTx n := fun h => by have := h.1; rw [e1'] at this; exact absurd this (by decide)
        rw [if_neg hnt, if_neg hnt]
        show fieldsD 102 [bs (decI n.size), bs (decI n.time)] = _
        rw [fD_f, s1, t1, s2, t2]
        unfold fldOf
        rw [hk', e1']
        rfl
      · have e1' : 0 < n.text.size := e1
        have e2' : n.size = (n.text.size : Int) := e2
        have hnt : isTx n := ⟨e1', e2'.symm⟩
        rw [if_pos hnt, if_pos hnt]
        show fieldsD 116 [bs (decI n.time), bs (escL n.text.data.toList)] = _
        rw [fD_t, t1, t2, text_back]
        unfold fldOf
        rw [hk', e2']
        rfl
    · have hk' : n.kind = 108 := hk
      have h1' : n.size = 0 := h1
      have h2' : n.time = 0 := h2
      have h3' : 0 < n.text.size := h3
      rw [(sign108 hk').1, (sign108 hk').2]
      show fieldsD 108 [bs (escL n.text.data.toList)] = _
      rw [fD_l, text_back]
      show (if n.text.size = 0 then none else some ((108, 0, 0, n.text) : FldD)) = _
      rw [if_neg (by omega)]
      unfold fldOf
      rw [hk', h1', h2']
  rw [e2]
  rfl

/-! ### The whole text -/
def printL (ps : List (NodeD × ByteArray)) : List UInt8 := ps.flatMap (fun p => lineL p.1 p.2.data.toList ++ [10])
theorem printL_cons (p : NodeD × ByteArray) (ps : List (NodeD × ByteArray)) : printL (p :: ps) = lineL p.1 p.2.data.toList ++ 10 :: printL ps := by simp [printL]
theorem cut_print : ∀ (ps : List (NodeD × ByteArray)), (∀ p ∈ ps, (10 : UInt8) ∉ lineL p.1 p.2.data.toList) → cutS 10 (bs (printL ps)) = ps.map (fun p => bs (lineL p.1 p.2.data.toList)) ++ [bs []] := by
  intro ps
  induction ps with
  | nil => intro _; rfl
  | cons p r ih =>
    intro h
    have e := ih (fun x hx => h x (by simp [hx]))
    unfold cutS at e ⊢
    rw [data_bs] at e ⊢
    rw [printL_cons, split_hit 10 _ _ (h p (by simp)), List.map_cons, e]
    rfl
/-- Lines, put one by one. -/
def runP : List LineD → List NodeD → List ByteArray → Option (List NodeD × List ByteArray)
  | [], L, K => some (L, K)
  | ln :: r, L, K => if 200 < L.length then none else match putD L K ln with
    | .no _ => none
    | .yes L' K' => runP r L' K'
theorem go_run (ys : List ByteArray) : ∀ (pl : Int) (L : List NodeD) (K : List ByteArray), (goL ys pl L K).2.1 = 0 → ys ≠ [] → ∃ lns K', runP lns L K = some ((goL ys pl L K).1, K') ∧ (∀ ln ∈ lns, ∃ y ∈ ys, lineD y = some ln) := by
  induction ys with
  | nil => intro _ _ _ _ h; exact absurd rfl h
  | cons y ys ih =>
    intro pl L K h _
    unfold goL at h ⊢
    split at h
    · rename_i he
      rw [if_pos he]
      split at h
      · rename_i h0
        rw [if_pos h0]
        exact ⟨[], K, rfl, fun ln hl => by cases hl⟩
      · revert h; dsimp only; omega
    · rename_i he
      rw [if_neg he]
      cases hl : lineD y with
      | none => rw [hl] at h; revert h; dsimp only; omega
      | some ln =>
        rw [hl] at h
        dsimp only at h ⊢
        by_cases h2 : 200 < L.length
        · rw [if_pos h2] at h; revert h; dsimp only; omega
        · rw [if_neg h2] at h ⊢
          cases hp : putD L K ln with
          | no e => rw [hp] at h; exact absurd h (put_no hp)
          | yes L' K' =>
            rw [hp] at h
            dsimp only at h ⊢
            obtain ⟨lns, K2, h3, h4⟩ := ih _ L' K' h (by intro e; rw [e] at he; exact he rfl)
            refine ⟨ln :: lns, K2, ?_, ?_⟩
            · unfold runP
              rw [if_neg h2, hp]
              exact h3
            · intro l2 hl2
              simp only [List.mem_cons] at hl2
              rcases hl2 with rfl | hl2
              · exact ⟨y, by simp, hl⟩
              · obtain ⟨z, hz, e⟩ := h4 l2 hl2
                exact ⟨z, by simp [hz], e⟩
theorem run_go : ∀ (lns : List LineD) (ys : List ByteArray) (pl : Int) (L : List NodeD) (K : List ByteArray) (R : List NodeD) (K' : List ByteArray), runP lns L K = some (R, K') → ys.map lineD = lns.map some → goL (ys ++ [bs []]) pl L K = (R, 0, 0) := by
  intro lns
  induction lns with
  | nil =>
    intro ys pl L K R K' h hy
    cases ys with
    | nil =>
      cases h
      show goL [bs []] pl L K = (L, 0, 0)
      unfold goL
      rw [if_pos (by simp), if_pos (by rfl)]
    | cons y ys => cases hy
  | cons ln lns ih =>
    intro ys pl L K R K' h hy
    cases ys with
    | nil => cases hy
    | cons y ys =>
      simp only [List.map_cons, List.cons.injEq] at hy
      unfold runP at h
      by_cases h2 : 200 < L.length
      · rw [if_pos h2] at h; cases h
      · rw [if_neg h2] at h
        cases hp : putD L K ln with
        | no e => rw [hp] at h; cases h
        | yes L1 K1 =>
          rw [hp] at h
          rw [List.cons_append]
          unfold goL
          rw [if_neg (by simp), hy.1]
          dsimp only
          rw [if_neg h2, hp]
          exact ih ys _ L1 K1 R K' h hy.2
/-- What was put stands there. -/
theorem run_facts : ∀ (lns : List LineD) (L : List NodeD) (K : List ByteArray) (R : List NodeD) (K' : List ByteArray), K.length = L.length → runP lns L K = some (R, K') → R.length = L.length + lns.length ∧ K' = K ++ lns.map (·.way) ∧ (∀ (i : Nat) (n : NodeD), L[i]? = some n → ∃ m, R[i]? = some m ∧ fldOf m = fldOf n) ∧ ∀ (i : Nat) (ln : LineD), lns[i]? = some ln → ∃ m, R[L.length + i]? = some m ∧ fldOf m = ln.fld := by
  intro lns
  induction lns with
  | nil =>
    intro L K R K' hK h
    cases h
    exact ⟨by simp, by simp, fun i n hn => ⟨n, hn, rfl⟩, fun i ln hl => by simp at hl⟩
  | cons ln lns ih =>
    intro L K R K' hK h
    unfold runP at h
    by_cases h2 : 200 < L.length
    · rw [if_pos h2] at h; cases h
    · rw [if_neg h2] at h
      cases hp : putD L K ln with
      | no e => rw [hp] at h; cases h
      | yes L1 K1 =>
        rw [hp] at h
        dsimp only at h
        obtain ⟨a, d, hd, e1, e2⟩ : ∃ a d, L[a]? = some d ∧ L1 = addD L a d (newD a ln.fld (lastS ln.way)) (d.kids ++ [L.length]) ∧ K1 = K ++ [ln.way] := by
          unfold putD at hp
          split at hp
          · cases hp
          · split at hp
            · cases hp
            · rename_i a _ _ d hd
              split at hp
              · cases hp
              · split at hp
                · cases hp
                · cases hp
                  exact ⟨a, d, hd, rfl, rfl⟩
        have hal := (List.getElem?_eq_some_iff.1 hd).1
        have hl1 : L1.length = L.length + 1 := by rw [e1]; simp [addD]
        have hget : ∀ (i : Nat) (n : NodeD), (L ++ [newD a ln.fld (lastS ln.way)])[i]? = some n → ∃ m, L1[i]? = some m ∧ fldOf m = fldOf n := by
          intro i n hn
          rw [e1]
          unfold addD
          by_cases hia : a = i
          · subst hia
            rw [List.getElem?_append_left hal, hd] at hn
            cases hn
            exact ⟨_, List.getElem?_set_self (by simp; omega), rfl⟩
          · rw [List.getElem?_set_ne hia]
            exact ⟨n, hn, rfl⟩
        obtain ⟨r1, r2, r3, r4⟩ := ih L1 K1 R K' (by rw [hl1, e2]; simp [hK]) h
        refine ⟨by rw [r1, hl1]; simp; omega, by rw [r2, e2]; simp, fun i n hn => ?_, fun i l2 hl2 => ?_⟩
        · obtain ⟨m, hm, hf⟩ := hget i n (by rw [List.getElem?_append_left (List.getElem?_eq_some_iff.1 hn).1]; exact hn)
          obtain ⟨m2, hm2, hf2⟩ := r3 i m hm
          exact ⟨m2, hm2, hf2.trans hf⟩
        · cases i with
          | zero =>
            simp at hl2
            subst hl2
            obtain ⟨m, hm, hf⟩ := hget L.length (newD a ln.fld (lastS ln.way)) (by simp)
            obtain ⟨m2, hm2, hf2⟩ := r3 _ m hm
            exact ⟨m2, hm2, hf2.trans hf⟩
          | succ i =>
            rw [List.getElem?_cons_succ] at hl2
            obtain ⟨m, hm, hf⟩ := r4 i l2 hl2
            rw [hl1] at hm
            exact ⟨m, by rw [show L.length + (i + 1) = L.length + 1 + i from by omega]; exact hm, hf⟩
theorem run_inv : ∀ (lns : List LineD) (L : List NodeD) (K : List ByteArray) (R : List NodeD) (K' : List ByteArray), KInv L K → (∀ ln ∈ lns, (cutS 47 ln.way).all nameOk = true ∧ ln.fld.2.2.2.size ≤ 20000) → runP lns L K = some (R, K') → KInv R K' := by
  intro lns
  induction lns with
  | nil => intro L K R K' h _ e; cases e; exact h
  | cons ln lns ih =>
    intro L K R K' h hl e
    unfold runP at e
    by_cases h2 : 200 < L.length
    · rw [if_pos h2] at e; cases e
    · rw [if_neg h2] at e
      cases hp : putD L K ln with
      | no e2 => rw [hp] at e; cases e
      | yes L1 K1 =>
        rw [hp] at e
        obtain ⟨g1, g2⟩ := hl ln (by simp)
        exact ih L1 K1 R K' (put_inv h g1 g2 (by omega) hp).1 (fun x hx => hl x (by simp [hx])) e
theorem drop_zip1 {α β : Type} (l : List α) (m : List β) : (l.zip m).drop 1 = (l.drop 1).zip (m.drop 1) := by cases l <;> cases m <;> simp
def printD (L : List NodeD) (K : List ByteArray) : List UInt8 := printL ((L.zip K).drop 1)
/-- A tree that was read, its paths, what its nodes' fields may be; and that its text is read as it. -/
structure Prints (R : List NodeD) (K : List ByteArray) : Prop where
  inv : KInv R K
  fld : ∀ (i : Nat) (n : NodeD), 0 < i → R[i]? = some n → FldOk (fldOf n)
  back : (printD R K).length ≤ 20000 → loadD (bs (printD R K)) = (R, 0, 0)
theorem prints_of (s : ByteArray) (h : (loadD s).2.1 = 0) : ∃ K, Prints (loadD s).1 K := by
  unfold loadD at h ⊢
  split at h
  · revert h; dsimp only; omega
  · rename_i hs
    rw [if_neg hs]
    obtain ⟨lns, K, h1, h2⟩ := go_run _ _ _ _ h (by intro e; exact absurd e (cutS_ne' _ _))
    have hln : ∀ ln ∈ lns, (cutS 47 ln.way).all nameOk = true ∧ ln.fld.2.2.2.size ≤ 20000 := by
      intro ln hl
      obtain ⟨y, hy, e⟩ := h2 ln hl
      obtain ⟨g1, g2, _⟩ := line_facts e
      have := cutS_le 10 s y hy
      exact ⟨g1, by omega⟩
    have hinv := run_inv lns _ _ _ _ kinv_root hln h1
    obtain ⟨r1, r2, r3, r4⟩ := run_facts lns _ _ _ _ rfl h1
    generalize (goL (cutS 10 s) 0 [rootD] [bs []]).1 = R at *
    have hfld : ∀ (i : Nat) (ln : LineD), lns[i]? = some ln → ∃ m, R[i + 1]? = some m ∧ fldOf m = ln.fld := by
      intro i ln hl
      obtain ⟨m, hm, e⟩ := r4 i ln hl
      exact ⟨m, by rw [show i + 1 = [rootD].length + i from by simp; omega]; exact hm, e⟩
    have hpairs : (R.zip K).drop 1 = (R.drop 1).zip (lns.map (·.way)) := by
      rw [r2, drop_zip1]
      rfl
    refine ⟨K, hinv, fun i n hi hn => ?_, fun hsz => ?_⟩
    · obtain ⟨ln, hl⟩ : ∃ ln, lns[i - 1]? = some ln := ⟨_, List.getElem?_eq_getElem (by have := (List.getElem?_eq_some_iff.1 hn).1; simp at r1; omega)⟩
      obtain ⟨m, hm, e⟩ := hfld _ ln hl
      rw [show i - 1 + 1 = i from by omega, hn] at hm
      cases hm
      rw [e]
      obtain ⟨y, _, e2⟩ := h2 ln (List.mem_of_getElem? hl)
      exact line_ok e2
    · have hok : ∀ p ∈ (R.zip K).drop 1, ∃ ln ∈ lns, fldOf p.1 = ln.fld ∧ p.2 = ln.way := by
        intro p hp
        rw [hpairs] at hp
        obtain ⟨i, hi⟩ := List.mem_iff_getElem?.1 hp
        rw [List.getElem?_zip_eq_some] at hi
        obtain ⟨hi1, hi2⟩ := hi
        rw [List.getElem?_drop] at hi1
        rw [List.getElem?_map] at hi2
        cases hl : lns[i]? with
        | none => rw [hl] at hi2; cases hi2
        | some ln =>
          rw [hl] at hi2
          obtain ⟨m, hm, e⟩ := hfld i ln hl
          rw [show 1 + i = i + 1 from by omega, hm] at hi1
          refine ⟨ln, List.mem_of_getElem? hl, ?_, ?_⟩
          · rw [← Option.some.inj hi1]; exact e
          · exact (Option.some.inj hi2).symm
      have hfree : ∀ p ∈ (R.zip K).drop 1, (10 : UInt8) ∉ lineL p.1 p.2.data.toList := by
        intro p hp
        obtain ⟨ln, hl, e1, e2⟩ := hok p hp
        obtain ⟨y, _, e3⟩ := h2 ln hl
        exact line_free (by rw [e1]; exact line_ok e3) (by rw [e2]; exact (hln ln hl).1)
      unfold printD at hsz ⊢
      rw [loadD, if_neg (by rw [← len_data, data_bs]; omega), cut_print _ hfree]
      refine run_go lns _ 0 _ _ R K h1 ?_
      rw [List.map_map]
      apply List.ext_getElem?
      intro i
      rw [List.getElem?_map, List.getElem?_map, hpairs]
      by_cases hi : i < lns.length
      · obtain ⟨ln, hl⟩ : ∃ ln, lns[i]? = some ln := ⟨_, List.getElem?_eq_getElem hi⟩
        obtain ⟨m, hm, e⟩ := hfld i ln hl
        have hz : ((R.drop 1).zip (lns.map (·.way)))[i]? = some (m, ln.way) := by
          rw [List.getElem?_zip_eq_some]
          exact ⟨by rw [List.getElem?_drop, show 1 + i = i + 1 from by omega]; exact hm, by rw [List.getElem?_map, hl]; rfl⟩
        rw [hz, hl]
        obtain ⟨y, _, e3⟩ := h2 ln (List.mem_of_getElem? hl)
        show some (lineD (bs (lineL m ln.way.data.toList))) = some (some ln)
        rw [line_back (by rw [e]; exact line_ok e3) (hln ln (List.mem_of_getElem? hl)).1, e]
      · rw [List.getElem?_eq_none (by simp; omega), List.getElem?_eq_none (by omega)]
        rfl
end Go.Proofs.YtconbmfbokpklaaGreatDoor
/- The reference's own functions of printing: shown, Decimal. -/
namespace Go.Proofs.YtconbmfbokpklaaGreatDoor
open Go.RowKit

theorem u8s_push2 {B : Nat} {w1 : World} {v' : Value} {xs : List UInt8} {x y : UInt8} (h : w1.ownsRow B 5 1 v' (xs.length + 2) (u8s xs ++ [Value.int .u8 (x.toNat : Int), Value.int .u8 (y.toNat : Int)])) :
    w1.ownsRow B 5 1 v' (xs ++ [x, y]).length (u8s (xs ++ [x, y])) := by
  unfold u8s at h ⊢
  rw [List.length_append, List.map_append]; exact h
/-- k bytes have been written, as xs. -/
def EscSt (s : ByteArray) (k : Nat) (xs : List UInt8) : Prop := xs = escL (s.data.toList.take k)
theorem esc_snoc (l : List UInt8) (c : UInt8) : escL (l ++ [c]) = escL l ++ escB c := by simp [escL]
theorem escSt_step {s : ByteArray} {k : Nat} {xs : List UInt8} (h : EscSt s k xs) (hk : k < s.size) : EscSt s (k + 1) (xs ++ escB s[k]) := by
  unfold EscSt at h ⊢
  rw [take_snoc s k hk, esc_snoc, h]
theorem escSt_len {s : ByteArray} {k : Nat} {xs : List UInt8} (h : EscSt s k xs) : xs.length ≤ 2 * k := by
  unfold EscSt at h
  rw [h]
  refine Nat.le_trans (esc_len _) ?_
  have := List.length_take_le k s.data.toList
  omega
theorem escSt_end {s : ByteArray} {xs : List UInt8} (h : EscSt s s.size xs) : xs = escL s.data.toList := by
  unfold EscSt at h
  rw [h, List.take_of_length_le (by rw [len_data]; exact Nat.le_refl _)]
theorem esc92 {c : UInt8} (h : c = 92) : escB c = [92, 92] := by unfold escB; rw [if_pos h]
theorem esc9 {c : UInt8} (h : c = 9) : escB c = [92, 116] := by subst h; rfl
theorem esc10 {c : UInt8} (h : c = 10) : escB c = [92, 110] := by subst h; rfl
theorem esc0 {c : UInt8} (h : c = 0) : escB c = [92, 48] := by subst h; rfl
theorem escNo {c : UInt8} (h1 : ¬ c = 92) (h2 : ¬ c = 9) (h3 : ¬ c = 10) (h4 : ¬ c = 0) : escB c = [c] := by unfold escB; rw [if_neg h1, if_neg h2, if_neg h3, if_neg h4]

set_option maxRecDepth 100000 in
set_option maxHeartbeats 2000000 in
theorem shown_any (s : ByteArray) (w : World) (hs : s.size ≤ 1000000) :
    Calls Tryz.prog 32 #[.string s] w fun e w' => e = .returned (.string (bs (escL s.data.toList))) ∧ Below w.heap.size w w' := by
  obtain ⟨i0, hi, hz0, hz1, hz2⟩ := info_parts Tryz.info5
  go_enter Tryz.func32, Tryz.ntmps32
  go_wp2
  go_loopw [3, 4] (fun v r wr => ∃ (k : Nat) (xs : List UInt8), k ≤ s.size ∧ r = .int .i64 k ∧ wr.ownsRow w.heap.size 5 1 v xs.length (u8s xs) ∧ Below w.heap.size w wr ∧ EscSt s k xs) (fun _ r _ => s.size - (intOf r).toNat)
  case atStart => exact ⟨0, [], Nat.zero_le _, rfl, World.ownsRow_nil _ _ _ _, Below.refl _ _, rfl⟩
  case round =>
    obtain ⟨k, xs, hk, rfl, hown, hnx, hst⟩ := hrel
    have hxl := escSt_len hst
    by_cases hlt : k < s.size
    · have HX := hide (escSt_step hst hlt)
      clear hst
      cases c92 : ((s[k].toNat : Int) == 92)
      · cases c9 : ((s[k].toNat : Int) == 9)
        · cases c10 : ((s[k].toNat : Int) == 10)
          · cases c0 : ((s[k].toNat : Int) == 0)
            · rw [escNo (byte_not (n := 92) c92 (by omega)) (byte_not (n := 9) c9 (by omega)) (byte_not (n := 10) c10 (by omega)) (byte_not (n := 0) c0 (by omega))] at HX
              go_wp2_with (at_builtin; refine wpList_append_own _ rfl _ _ 63 rfl w.heap.size 5 i0 (.int .u8 0) 1 1 Tryz.underlying63 hi hz0 hz1 hz2 rfl (by decide) _ _ _ rfl (hown.alloc _) ⟨wr.heap.size, 0, none⟩ 1 1 [.int .u8 (s[k].toNat : Int)] rfl rfl (cell_one_new _ _ _) (by simp [Value.oneCell']) (by unfold maxLen; omega) (by omega) (by have := hnx.size; simp; omega) ?_; intro v' w1 hown' hgrow _)
              have HB := below_own hnx.size hnx hown hgrow
              go_roundw
              case rel => exact ⟨k + 1, _, by omega, by go_num, u8s_push hown', HB, HX.out⟩
              case measure => simp [intOf]; omega
            · rw [esc0 (byte_is (n := 0) c0 (by omega))] at HX
              go_wp2_with (at_builtin; refine wpList_append_own _ rfl _ _ 63 rfl w.heap.size 5 i0 (.int .u8 0) 1 1 Tryz.underlying63 hi hz0 hz1 hz2 rfl (by decide) _ _ _ rfl (hown.alloc _) ⟨wr.heap.size, 0, none⟩ 2 2 [.int .u8 92, .int .u8 48] rfl rfl (World.news_of_block (cs := #[.int .u8 92, .int .u8 48]) (World.alloc_heap_new wr _)) (by simp [Value.oneCell']) (by unfold maxLen; omega) (by omega) (by have := hnx.size; simp; omega) ?_; intro v' w1 hown' hgrow _)
              have HB := below_own hnx.size hnx hown hgrow
              go_roundw
              case rel => exact ⟨k + 1, _, by omega, by go_num, u8s_push2 (x := 92) (y := 48) hown', HB, HX.out⟩
              case measure => simp [intOf]; omega
          · rw [esc10 (byte_is (n := 10) c10 (by omega))] at HX
            go_wp2_with (at_builtin; refine wpList_append_own _ rfl _ _ 63 rfl w.heap.size 5 i0 (.int .u8 0) 1 1 Tryz.underlying63 hi hz0 hz1 hz2 rfl (by decide) _ _ _ rfl (hown.alloc _) ⟨wr.heap.size, 0, none⟩ 2 2 [.int .u8 92, .int .u8 110] rfl rfl (World.news_of_block (cs := #[.int .u8 92, .int .u8 110]) (World.alloc_heap_new wr _)) (by simp [Value.oneCell']) (by unfold maxLen; omega) (by omega) (by have := hnx.size; simp; omega) ?_; intro v' w1 hown' hgrow _)
            have HB := below_own hnx.size hnx hown hgrow
            go_roundw
            case rel => exact ⟨k + 1, _, by omega, by go_num, u8s_push2 (x := 92) (y := 110) hown', HB, HX.out⟩
            case measure => simp [intOf]; omega
        · rw [esc9 (byte_is (n := 9) c9 (by omega))] at HX
          go_wp2_with (at_builtin; refine wpList_append_own _ rfl _ _ 63 rfl w.heap.size 5 i0 (.int .u8 0) 1 1 Tryz.underlying63 hi hz0 hz1 hz2 rfl (by decide) _ _ _ rfl (hown.alloc _) ⟨wr.heap.size, 0, none⟩ 2 2 [.int .u8 92, .int .u8 116] rfl rfl (World.news_of_block (cs := #[.int .u8 92, .int .u8 116]) (World.alloc_heap_new wr _)) (by simp [Value.oneCell']) (by unfold maxLen; omega) (by omega) (by have := hnx.size; simp; omega) ?_; intro v' w1 hown' hgrow _)
          have HB := below_own hnx.size hnx hown hgrow
          go_roundw
          case rel => exact ⟨k + 1, _, by omega, by go_num, u8s_push2 (x := 92) (y := 116) hown', HB, HX.out⟩
          case measure => simp [intOf]; omega
      · rw [esc92 (byte_is (n := 92) c92 (by omega))] at HX
        go_wp2_with (at_builtin; refine wpList_append_own _ rfl _ _ 63 rfl w.heap.size 5 i0 (.int .u8 0) 1 1 Tryz.underlying63 hi hz0 hz1 hz2 rfl (by decide) _ _ _ rfl (hown.alloc _) ⟨wr.heap.size, 0, none⟩ 2 2 [.int .u8 92, .int .u8 92] rfl rfl (World.news_of_block (cs := #[.int .u8 92, .int .u8 92]) (World.alloc_heap_new wr _)) (by simp [Value.oneCell']) (by unfold maxLen; omega) (by omega) (by have := hnx.size; simp; omega) ?_; intro v' w1 hown' hgrow _)
        have HB := below_own hnx.size hnx hown hgrow
        go_roundw
        case rel => exact ⟨k + 1, _, by omega, by go_num, u8s_push2 (x := 92) (y := 92) hown', HB, HX.out⟩
        case measure => simp [intOf]; omega
    · obtain rfl : k = s.size := by omega
      have hcv := back_any hown
      have HE := hide (escSt_end hst)
      clear hst hown
      go_wp2
      go_ret
      exact ⟨by rw [← HE.out]; rfl, hnx⟩

/-- A digit as a text. -/
theorem conv_one (W : World) (x : Int) (h0 : 0 ≤ x) (h9 : x ≤ 9) : (convert 63 9 (.slice (some ⟨W.heap.size, 0, none⟩) 1 1)).run Tryz.prog (W.alloc (.cells #[.int .u8 (48 + x)] 5)) = .ok (.string (bs [UInt8.ofNat (48 + x.toNat)])) (W.alloc (.cells #[.int .u8 (48 + x)] 5)) := by
  refine run_convert_bytes_back _ 63 9 5 ⟨W.heap.size, 0, none⟩ 1 [UInt8.ofNat (48 + x.toNat)] Tryz.underlying63 Tryz.underlying5 Tryz.underlying9 fun j hj => ?_
  have hj0 : j = 0 := by simp at hj; exact hj
  subst hj0
  have e : ((UInt8.ofNat (48 + x.toNat)).toNat : Int) = 48 + x := by rw [dig_toNat (by omega)]; omega
  have := cell_one_new W (.int .u8 (48 + x)) 5 0 _ rfl
  rw [this]
  show some (Value.int .u8 (48 + x)) = some (.int .u8 ((UInt8.ofNat (48 + x.toNat)).toNat : Int))
  rw [e]
theorem bs_app (a b : List UInt8) : bs a ++ bs b = bs (a ++ b) := bs_inj (by rw [data_bs, ByteArray.data_append, Array.toList_append, data_bs, data_bs])
set_option maxRecDepth 100000 in
set_option maxHeartbeats 2000000 in
theorem decimal_any : ∀ (u : Nat) (w : World), u ≤ 999999999 → Calls Tryz.prog 33 #[.int .i64 (u : Int)] w fun e w' => e = .returned (.string (bs (Lib.decDigits u))) ∧ Below w.heap.size w w' := by
  intro u
  induction u using Nat.strongRecOn with
  | _ u ih =>
    intro w hu
    by_cases h10 : u < 10
    · have HD : Hid (Lib.decDigits u = [UInt8.ofNat (48 + u)]) := by unfold Hid; rw [Lib.decDigits, dif_pos h10]
      have hI : (u : Int) < 10 := by omega
      have hn0 : ¬ (u : Int) < 0 := by omega
      obtain ⟨dd, hdd, hcv⟩ : ∃ dd, Hid (dd = bs [UInt8.ofNat (48 + u)]) ∧ (convert 63 9 (.slice (some ⟨w.heap.size, 0, none⟩) 1 1)).run Tryz.prog (w.alloc (.cells #[.int .u8 (48 + (u : Int))] 5)) = .ok (.string dd) (w.alloc (.cells #[.int .u8 (48 + (u : Int))] 5)) := ⟨_, rfl, conv_one w (u : Int) (by omega) (by omega)⟩
      have HB : Hid (Below w.heap.size w (w.alloc (.cells #[.int .u8 (48 + (u : Int))] 5))) := (Below.refl _ _).alloc (Nat.le_refl _) _
      go_enter Tryz.func33, Tryz.ntmps33
      go_wp2
      go_ret
      exact ⟨ret_str (by rw [HD.out]; exact hdd.out), HB.out⟩
    · have HD : Hid (Lib.decDigits u = Lib.decDigits (u / 10) ++ [UInt8.ofNat (48 + u % 10)]) := by unfold Hid; rw [Lib.decDigits, dif_neg h10]
      have hI : ¬ (u : Int) < 10 := by omega
      have hn0 : ¬ (u : Int) < 0 := by omega
      have IH : Hid (Calls Tryz.prog 33 #[.int .i64 ((u : Int) / 10)] w fun e w' => e = .returned (.string (bs (Lib.decDigits (u / 10)))) ∧ Below w.heap.size w w') := ih (u / 10) (by omega) w (by omega)
      clear ih
      go_enter Tryz.func33, Tryz.ntmps33
      go_wp2_with fail
      refine (unhide IH).mono ?_
      rintro e w1 ⟨rfl, hb1⟩
      obtain ⟨dd, hdd, hcv⟩ : ∃ dd, Hid (dd = bs [UInt8.ofNat (48 + u % 10)]) ∧ (convert 63 9 (.slice (some ⟨w1.heap.size, 0, none⟩) 1 1)).run Tryz.prog (w1.alloc (.cells #[.int .u8 (48 + (u : Int) % 10)] 5)) = .ok (.string dd) (w1.alloc (.cells #[.int .u8 (48 + (u : Int) % 10)] 5)) := ⟨_, by show bs [UInt8.ofNat (48 + ((u : Int) % 10).toNat)] = _; rw [show ((u : Int) % 10).toNat = u % 10 from by omega], conv_one w1 ((u : Int) % 10) (by omega) (by omega)⟩
      have hdl : (Lib.decDigits (u / 10)).length ≤ 9 := dec_len 8 (Nat.lt_of_le_of_lt (m := 999999999) (by omega) (by decide))
      obtain ⟨tt, htt⟩ : ∃ tt, tt = bs (Lib.decDigits (u / 10)) := ⟨_, rfl⟩
      rw [← htt]
      have htl : tt.size ≤ 9 := by rw [htt, ← len_data, data_bs]; exact hdl
      have hds : dd.size = 1 := by rw [hdd.out]; rfl
      have HTT := hide htt
      clear htt hdl
      have HB : Hid (Below w.heap.size w (w1.alloc (.cells #[.int .u8 (48 + (u : Int) % 10)] 5))) := hb1.alloc hb1.size _
      have HS : Hid (tt ++ dd = bs (Lib.decDigits u)) := by
        unfold Hid
        rw [HTT.out, hdd.out, bs_app, HD.out]
      go_wp2
      go_ret
      exact ⟨ret_str HS.out, HB.out⟩
end Go.Proofs.YtconbmfbokpklaaGreatDoor
