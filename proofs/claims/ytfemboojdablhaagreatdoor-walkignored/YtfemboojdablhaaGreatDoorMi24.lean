import Derived.WalkKit
import Derived.WalkSpells
import Derived.WalkLawsBesides
import Derived.Lib.Bytealg
namespace Go.Proofs.YtfemboojdablhaaGreatDoor.Tre
def splitL (c : UInt8) : List UInt8 → List (List UInt8)
  | [] => [[]]
  | x :: r => if x = c then [] :: splitL c r else
      match splitL c r with
      | [] => [[x]]
      | p :: ps => (x :: p) :: ps
theorem split_ne (c : UInt8) (l : List UInt8) : splitL c l ≠ [] := by
  cases l with
  | nil => simp [splitL]
  | cons x r =>
    unfold splitL
    by_cases h : x = c
    · rw [if_pos h]; simp
    · rw [if_neg h]; cases splitL c r <;> simp
theorem split_same (c : UInt8) (r : List UInt8) : splitL c (c :: r) = [] :: splitL c r := by
  conv => lhs; unfold splitL
  rw [if_pos rfl]
theorem split_other (c x : UInt8) (r : List UInt8) (h : ¬ x = c) : ∃ p ps, splitL c r = p :: ps ∧ splitL c (x :: r) = (x :: p) :: ps := by
  cases e : splitL c r with
  | nil => exact absurd e (split_ne c r)
  | cons p ps =>
    refine ⟨p, ps, rfl, ?_⟩
    conv => lhs; unfold splitL
    rw [if_neg h, e]
theorem split_end (c : UInt8) (p : List UInt8) (h : c ∉ p) : splitL c p = [p] := by
  induction p with
  | nil => rfl
  | cons x r ih =>
    have hx : ¬ x = c := fun e => h (by simp [e])
    obtain ⟨p, ps, e1, e2⟩ := split_other c x r hx
    rw [ih (fun hm => h (by simp [hm]))] at e1
    simp only [List.cons.injEq] at e1
    rw [e2, ← e1.1, ← e1.2]
theorem split_hit (c : UInt8) (p r : List UInt8) (h : c ∉ p) : splitL c (p ++ c :: r) = p :: splitL c r := by
  induction p with
  | nil => exact split_same c r
  | cons x q ih =>
    have hx : ¬ x = c := fun e => h (by simp [e])
    obtain ⟨p, ps, e1, e2⟩ := split_other c x (q ++ c :: r) hx
    rw [ih (fun hm => h (by simp [hm]))] at e1
    simp only [List.cons.injEq] at e1
    rw [List.cons_append, e2, ← e1.1, ← e1.2]
theorem split_length (c : UInt8) (l : List UInt8) : (splitL c l).length ≤ l.length + 1 := by
  induction l with
  | nil => simp [splitL]
  | cons x r ih =>
    by_cases h : x = c
    · subst h; rw [split_same]; simp; omega
    · obtain ⟨p, ps, e1, e2⟩ := split_other c x r h
      rw [e1] at ih
      rw [e2]; simp at ih ⊢; omega
def bs (l : List UInt8) : ByteArray := ⟨l.toArray⟩
theorem bs_data (s : ByteArray) : bs s.data.toList = s := rfl
theorem data_bs (l : List UInt8) : (bs l).data.toList = l := rfl
theorem bs_inj {s t : ByteArray} (h : s.data.toList = t.data.toList) : s = t := by
  rw [← bs_data s, ← bs_data t, h]
theorem extract_bs (s : ByteArray) (a b : Nat) : s.extract a b = bs ((s.data.toList.drop a).take (b - a)) := by
  apply bs_inj
  rw [data_bs, ByteArray.data_extract, Array.toList_extract, List.extract_eq_take_drop]
def cutS (c : UInt8) (s : ByteArray) : List ByteArray := (splitL c s.data.toList).map bs
def keep (p : ByteArray) : Bool := !p.toList.isEmpty
def partsS (s : ByteArray) : List ByteArray := (cutS 47 s).filter keep
theorem cutS_length (c : UInt8) (s : ByteArray) : (cutS c s).length ≤ s.size + 1 := by
  have := split_length c s.data.toList
  unfold cutS
  rw [List.length_map]
  simpa using this
theorem partsS_length (s : ByteArray) : (partsS s).length ≤ s.size + 1 :=
  Nat.le_trans (List.length_filter_le _ _) (cutS_length 47 s)
def CutSt (c : UInt8) (s : ByteArray) (k f : Nat) (done : List ByteArray) : Prop :=
  (k ≤ s.size ∧ f ≤ k ∧ c ∉ (s.data.toList.drop f).take (k - f) ∧ cutS c s = done ++ (splitL c (s.data.toList.drop f)).map bs) ∨ (k = s.size + 1 ∧ done = cutS c s)
theorem size_list (s : ByteArray) : s.data.toList.length = s.size := by simp
theorem drop_get (s : ByteArray) (k : Nat) (h : k < s.size) : s.data.toList.drop k = s[k] :: s.data.toList.drop (k + 1) := by
  rw [List.drop_eq_getElem_cons (by simpa using h)]; rfl
theorem cutSt_zero (c : UInt8) (s : ByteArray) : CutSt c s 0 0 [] := .inl ⟨Nat.zero_le _, Nat.le_refl _, by simp, by simp [cutS]⟩
theorem cutSt_room {c : UInt8} {s : ByteArray} {k f : Nat} {done : List ByteArray} (h : CutSt c s k f done) (hk : k ≤ s.size) : done.length + 1 ≤ s.size + 1 := by
  rcases h with ⟨_, _, _, h4⟩ | ⟨h1, _⟩
  · have h5 := cutS_length c s
    rw [h4, List.length_append, List.length_map] at h5
    have h6 : 1 ≤ (splitL c (s.data.toList.drop f)).length := by
      cases e : splitL c (s.data.toList.drop f) with
      | nil => exact absurd e (split_ne _ _)
      | cons p ps => simp
    omega
  · omega
theorem cutSt_from {c : UInt8} {s : ByteArray} {k f : Nat} {done : List ByteArray} (h : CutSt c s k f done) (hk : k ≤ s.size) : f ≤ k := by
  rcases h with ⟨_, h2, _, _⟩ | ⟨h1, _⟩
  · exact h2
  · omega
theorem cutSt_end {c : UInt8} {s : ByteArray} {f : Nat} {done : List ByteArray} (h : CutSt c s s.size f done) : CutSt c s (s.size + 1) (s.size + 1) (done ++ [s.extract f s.size]) := by
  refine .inr ⟨rfl, ?_⟩
  rcases h with ⟨_, h2, h3, h4⟩ | ⟨h1, _⟩
  · have e : (s.data.toList.drop f).take (s.size - f) = s.data.toList.drop f := List.take_of_length_le (by simp)
    rw [extract_bs, e]
    rw [e] at h3
    rw [h4, split_end c _ h3]; rfl
  · omega
theorem split_at (s : ByteArray) (f k : Nat) (hf : f ≤ k) (hk : k < s.size) : s.data.toList.drop f = (s.data.toList.drop f).take (k - f) ++ s[k] :: s.data.toList.drop (k + 1) := by
  rw [← drop_get s k hk]
  have : s.data.toList.drop k = (s.data.toList.drop f).drop (k - f) := by rw [List.drop_drop]; congr 1; omega
  rw [this, List.take_append_drop]
theorem cutSt_hit {c : UInt8} {s : ByteArray} {k f : Nat} {done : List ByteArray} (h : CutSt c s k f done) (hk : k < s.size) (hc : s[k] = c) : CutSt c s (k + 1) (k + 1) (done ++ [s.extract f k]) := by
  rcases h with ⟨_, h2, h3, h4⟩ | ⟨h1, _⟩
  · refine .inl ⟨by omega, Nat.le_refl _, by simp, ?_⟩
    rw [h4, split_at s f k h2 hk, hc, split_hit c _ _ h3, extract_bs]
    simp
  · omega
theorem cutSt_miss {c : UInt8} {s : ByteArray} {k f : Nat} {done : List ByteArray} (h : CutSt c s k f done) (hk : k < s.size) (hc : ¬ s[k] = c) : CutSt c s (k + 1) f done := by
  rcases h with ⟨_, h2, h3, h4⟩ | ⟨h1, _⟩
  · refine .inl ⟨by omega, by omega, ?_, h4⟩
    rw [split_at s f k h2 hk, List.take_append]
    have hl : ((s.data.toList.drop f).take (k - f)).length = k - f := by simp; omega
    rw [hl, List.take_of_length_le (by omega), show k + 1 - f - (k - f) = 1 from by omega]
    simp only [List.mem_append, not_or]
    exact ⟨h3, by simp; exact fun e => hc e.symm⟩
  · omega
theorem cutSt_out {c : UInt8} {s : ByteArray} {k f : Nat} {done : List ByteArray} (h : CutSt c s k f done) (hk : ¬ k ≤ s.size) : done = cutS c s := by
  rcases h with ⟨h1, _⟩ | ⟨_, h2⟩
  · omega
  · exact h2
theorem cutSt_le {c : UInt8} {s : ByteArray} {k f : Nat} {done : List ByteArray} (h : CutSt c s k f done) : k ≤ s.size + 1 := by
  rcases h with ⟨h1, _⟩ | ⟨h1, _⟩ <;> omega
end Go.Proofs.YtfemboojdablhaaGreatDoor.Tre
namespace Go.Proofs.YtfemboojdablhaaGreatDoor.Tre
theorem split_cat (c : UInt8) (p q : List UInt8) : splitL c (p ++ c :: q) = splitL c p ++ splitL c q := by
  induction p with
  | nil => rw [List.nil_append, split_same]; rfl
  | cons x r ih =>
    by_cases h : x = c
    · subst h
      rw [List.cons_append, split_same, split_same, ih]; rfl
    · obtain ⟨p1, ps, e1, e2⟩ := split_other c x r h
      obtain ⟨p2, ps2, e3, e4⟩ := split_other c x (r ++ c :: q) h
      rw [List.cons_append, e4, e2]
      rw [ih, e1, List.cons_append] at e3
      simp only [List.cons.injEq] at e3
      rw [← e3.1, ← e3.2]; rfl
theorem snoc_cases {α : Type} (l : List α) : l = [] ∨ ∃ m x, l = m ++ [x] := by
  rcases List.eq_nil_or_concat l with h | ⟨m, x, h⟩
  · exact .inl h
  · exact .inr ⟨m, x, by simpa using h⟩
end Go.Proofs.YtfemboojdablhaaGreatDoor.Tre
namespace Go.Proofs.YtfemboojdablhaaGreatDoor.Tre
structure NodeD where
  kind : Int
  name : ByteArray
  up : Int
  size : Int
  time : Int
  text : ByteArray
  kids : List Nat
def dstep (n : Int) (c : UInt8) : Int := 10 * n + ((c.toNat : Int) - 48)
def dval (l : List UInt8) : Int := l.foldl dstep 0
def isD (c : UInt8) : Bool := decide (48 ≤ (c.toNat : Int) ∧ (c.toNat : Int) ≤ 57)
def good (l : List UInt8) : Bool := l.all isD && decide (1 ≤ l.length ∧ l.length ≤ 9)
def numI (l : List UInt8) : Int := if good l then dval l else 0
def numJ (l : List UInt8) : Int := if good l then dval l else -1
def gB (s : ByteArray) : Bool := good s.data.toList
def nI (s : ByteArray) : Int := numI s.data.toList
def nJ (s : ByteArray) : Int := numJ s.data.toList
theorem dval_snoc (l : List UInt8) (c : UInt8) : dval (l ++ [c]) = 10 * dval l + ((c.toNat : Int) - 48) := by
  unfold dval; rw [List.foldl_append]; rfl
theorem fold_bd (l : List UInt8) : ∀ a : Int, 0 ≤ a → l.all isD = true → 0 ≤ l.foldl dstep a ∧ l.foldl dstep a + 1 ≤ (a + 1) * 10 ^ l.length := by
  induction l with
  | nil => intro a h _; simp; omega
  | cons c t ih =>
    intro a h hd
    simp only [List.all_cons, Bool.and_eq_true] at hd
    have h1 : 48 ≤ (c.toNat : Int) ∧ (c.toNat : Int) ≤ 57 := by simpa [isD] using hd.1
    have h2 : 0 ≤ dstep a c := by unfold dstep; omega
    have := ih (dstep a c) h2 hd.2
    refine ⟨this.1, Int.le_trans this.2 ?_⟩
    have h3 : dstep a c + 1 ≤ (a + 1) * 10 := by unfold dstep; omega
    have h4 : (0 : Int) ≤ 10 ^ t.length := by exact Int.le_of_lt (Int.pow_pos (by omega))
    have h5 := Int.mul_le_mul_of_nonneg_right h3 h4
    rw [List.length_cons, Int.pow_succ, Int.mul_comm (10 ^ t.length : Int) 10, ← Int.mul_assoc]
    exact h5
theorem dval_bd (l : List UInt8) (h : l.all isD = true) (hl : l.length ≤ 9) : 0 ≤ dval l ∧ dval l ≤ 999999999 := by
  have := fold_bd l 0 (by omega) h
  refine ⟨this.1, ?_⟩
  have h2 : (10 : Int) ^ l.length ≤ 10 ^ 9 := by
    have : (10 : Nat) ^ l.length ≤ 10 ^ 9 := Nat.pow_le_pow_right (by omega) hl
    exact_mod_cast this
  have h3 := this.2
  unfold dval
  have : (10 : Int) ^ 9 = 1000000000 := by decide
  omega
theorem take_snoc (s : ByteArray) (k : Nat) (h : k < s.size) : s.data.toList.take (k + 1) = s.data.toList.take k ++ [s[k]] := by
  rw [List.take_succ_eq_append_getElem (by simpa using h)]; rfl
theorem len_data (s : ByteArray) : s.data.toList.length = s.size := by simp
theorem good_no_of (s : ByteArray) (k : Nat) (h : k < s.size) (hd : isD s[k] = false) : good s.data.toList = false := by
  have hm : s[k] ∈ s.data.toList := by
    have : s.data.toList[k]'(by simpa using h) = s[k] := rfl
    rw [← this]; exact List.getElem_mem _
  unfold good
  have : s.data.toList.all isD = false := by
    rw [List.all_eq_false]; exact ⟨_, hm, by simp [hd]⟩
  rw [this]; rfl
theorem good_no_short (s : ByteArray) (h : s.size = 0 ∨ 9 < s.size) : good s.data.toList = false := by
  unfold good
  have : decide (1 ≤ s.data.toList.length ∧ s.data.toList.length ≤ 9) = false := by
    rw [len_data]; simp; omega
  rw [this]; simp
theorem good_yes (s : ByteArray) (h1 : 1 ≤ s.size) (h9 : s.size ≤ 9) (hd : s.data.toList.all isD = true) : good s.data.toList = true := by
  unfold good; rw [hd, len_data]; simp; omega
theorem gB_bd {s : ByteArray} (h : gB s = true) : 0 ≤ nJ s ∧ nJ s ≤ 999999999 ∧ nI s = nJ s := by
  unfold gB at h
  have h2 := h
  unfold good at h2
  simp only [Bool.and_eq_true, decide_eq_true_eq] at h2
  have := dval_bd _ h2.1 h2.2.2
  unfold nJ nI numJ numI
  rw [if_pos h, if_pos h]
  exact ⟨this.1, this.2, rfl⟩
theorem gB_no {s : ByteArray} (h : gB s = false) : nJ s = -1 := by
  unfold gB at h
  unfold nJ numJ; rw [h]; rfl
def escD (d : UInt8) : Option UInt8 := if d = 92 then some 92 else if d = 116 then some 9 else if d = 110 then some 10 else if d = 48 then some 0 else none
def fieldD : List UInt8 → Option (List UInt8)
  | [] => some []
  | [c] => if c = 0 ∨ c = 9 ∨ c = 10 ∨ c = 92 then none else some [c]
  | c :: d :: r => if c = 0 ∨ c = 9 ∨ c = 10 then none else
      if c = 92 then (match escD d with
        | none => none
        | some e => (fieldD r).map (fun t => e :: t))
      else (fieldD (d :: r)).map (fun t => c :: t)
theorem field_bad {c : UInt8} (r : List UInt8) (h : c = 0 ∨ c = 9 ∨ c = 10) : fieldD (c :: r) = none := by
  cases r with
  | nil => unfold fieldD; rw [if_pos]; rcases h with h | h | h <;> simp [h]
  | cons d r => unfold fieldD; rw [if_pos h]
theorem field_plain {c : UInt8} (r : List UInt8) (h0 : ¬ c = 0) (h9 : ¬ c = 9) (h10 : ¬ c = 10) (h92 : ¬ c = 92) : fieldD (c :: r) = (fieldD r).map (fun t => c :: t) := by
  cases r with
  | nil =>
    have e : fieldD [c] = some [c] := by unfold fieldD; rw [if_neg (by simp [h0, h9, h10, h92])]
    rw [e]; simp [fieldD]
  | cons d r => conv => lhs; unfold fieldD
                rw [if_neg (by simp [h0, h9, h10]), if_neg h92]
theorem field_end : fieldD [92] = none := by unfold fieldD; rw [if_pos (by simp)]
theorem field_esc {d e : UInt8} (r : List UInt8) (h : escD d = some e) : fieldD (92 :: d :: r) = (fieldD r).map (fun t => e :: t) := by
  conv => lhs; unfold fieldD
  rw [if_neg (by decide), if_pos rfl, h]
theorem field_esc_no {d : UInt8} (r : List UInt8) (h : escD d = none) : fieldD (92 :: d :: r) = none := by
  conv => lhs; unfold fieldD
  rw [if_neg (by decide), if_pos rfl, h]
def textD (s : ByteArray) : Option ByteArray := (fieldD s.data.toList).map bs
def FSt (s : ByteArray) (k : Nat) (xs : List UInt8) : Prop := fieldD s.data.toList = (fieldD (s.data.toList.drop k)).map (fun t => xs ++ t)
theorem fst_zero (s : ByteArray) : FSt s 0 [] := by unfold FSt; simp
theorem fst_end {s : ByteArray} {xs : List UInt8} (h : FSt s s.size xs) : textD s = some (bs xs) := by
  unfold FSt at h
  rw [List.drop_of_length_le (by simp)] at h
  unfold textD
  rw [h]; simp [fieldD]
theorem fst_none {s : ByteArray} {k : Nat} {xs : List UInt8} (h : FSt s k xs) (hn : fieldD (s.data.toList.drop k) = none) : textD s = none := by
  unfold FSt at h
  unfold textD
  rw [h, hn]; rfl
theorem fst_step {s : ByteArray} {k m : Nat} {xs : List UInt8} {e : UInt8} (h : FSt s k xs) (hn : fieldD (s.data.toList.drop k) = (fieldD (s.data.toList.drop m)).map (fun t => e :: t)) : FSt s m (xs ++ [e]) := by
  unfold FSt at h ⊢
  rw [h, hn, Option.map_map]
  congr 1
  funext t
  simp
theorem field_len : ∀ (n : Nat) (l t : List UInt8), l.length = n → fieldD l = some t → t.length ≤ l.length := by
  intro n
  induction n using Nat.strongRecOn with
  | _ n ih =>
    intro l t hl h
    match l, h with
    | [], h => simp [fieldD] at h; subst h; simp
    | [c], h =>
      unfold fieldD at h
      by_cases hc : c = 0 ∨ c = 9 ∨ c = 10 ∨ c = 92
      · rw [if_pos hc] at h; cases h
      · rw [if_neg hc] at h; cases h; simp
    | c :: d :: r, h =>
      unfold fieldD at h
      by_cases hc : c = 0 ∨ c = 9 ∨ c = 10
      · rw [if_pos hc] at h; cases h
      · rw [if_neg hc] at h
        by_cases h92 : c = 92
        · rw [if_pos h92] at h
          cases he : escD d with
          | none => rw [he] at h; cases h
          | some e =>
            rw [he] at h
            cases hr : fieldD r with
            | none => rw [hr] at h; cases h
            | some u =>
              rw [hr] at h; cases h
              have := ih r.length (by simp at hl; omega) r u rfl hr
              simp; omega
        · rw [if_neg h92] at h
          cases hr : fieldD (d :: r) with
          | none => rw [hr] at h; cases h
          | some u =>
            rw [hr] at h; cases h
            have := ih (d :: r).length (by simp at hl ⊢; omega) (d :: r) u rfl hr
            simp at this ⊢; omega
theorem textD_len {s t : ByteArray} (h : textD s = some t) : t.size ≤ s.size := by
  unfold textD at h
  cases e : fieldD s.data.toList with
  | none => rw [e] at h; cases h
  | some u =>
    rw [e] at h; cases h
    have := field_len _ _ _ rfl e
    rw [← size_list, ← size_list s]; exact this
def badB (c : UInt8) : Bool := decide (c = 0 ∨ c = 9 ∨ c = 10)
def nameOk (s : ByteArray) : Bool := !s.toList.isEmpty && decide (s.size ≤ 60) && !(s.toList == [46]) && !(s.toList == [46, 46]) && s.data.toList.all (fun c => !badB c)
abbrev FldD := Int × Int × Int × ByteArray
def fieldsD (k : Int) (ys : List ByteArray) : Option FldD :=
  if k = 100 ∨ k = 120 then (match ys with
    | [] => some (k, 0, 0, bs [])
    | _ => none) else
  if k = 102 then (match ys with
    | [a, b] => if gB a && gB b then some (102, nJ a, nJ b, bs []) else none
    | _ => none) else
  if k = 116 then (match ys with
    | [a, b] => if gB a then (textD b).map (fun t => (102, (t.size : Int), nJ a, t)) else none
    | _ => none) else
  if k = 108 then (match ys with
    | [a] => (textD a).bind (fun t => if t.size = 0 then none else some (108, 0, 0, t))
    | _ => none) else none
def headI (k : ByteArray) : Int := match k.data.toList with
  | [c] => (c.toNat : Int)
  | _ => -1
structure LineD where
  fld : FldD
  way : ByteArray
def lineD (s : ByteArray) : Option LineD := match cutS 9 s with
  | k :: way :: ys => if (cutS 47 way).all nameOk then (fieldsD (headI k) ys).map (fun r => ⟨r, way⟩) else none
  | _ => none
def joinL : List (List UInt8) → List UInt8
  | [] => []
  | [p] => p
  | p :: q :: r => p ++ 47 :: joinL (q :: r)
theorem join_split (l : List UInt8) : joinL (splitL 47 l) = l := by
  induction l with
  | nil => rfl
  | cons x r ih =>
    by_cases h : x = 47
    · subst h
      rw [split_same]
      cases e : splitL 47 r with
      | nil => exact absurd e (split_ne _ _)
      | cons p ps => rw [e] at ih; show [] ++ 47 :: joinL (p :: ps) = _; rw [ih]; rfl
    · obtain ⟨p, ps, e1, e2⟩ := split_other 47 x r h
      rw [e2]
      rw [e1] at ih
      cases ps with
      | nil => simp only [joinL] at ih ⊢; rw [ih]
      | cons q qs => simp only [joinL] at ih ⊢; rw [List.cons_append, ih]
theorem split_join : ∀ (ps : List (List UInt8)), ps ≠ [] → (∀ p ∈ ps, (47 : UInt8) ∉ p) → splitL 47 (joinL ps) = ps := by
  intro ps
  induction ps with
  | nil => intro h; exact absurd rfl h
  | cons p r ih =>
    intro _ hp
    cases r with
    | nil => exact split_end 47 p (hp p (by simp))
    | cons q qs =>
      show splitL 47 (p ++ 47 :: joinL (q :: qs)) = _
      rw [split_hit 47 p _ (hp p (by simp)), ih (by simp) (fun x hx => hp x (by simp [hx]))]
theorem split_free (l : List UInt8) : ∀ p ∈ splitL 47 l, (47 : UInt8) ∉ p := by
  induction l with
  | nil => intro p hp; simp [splitL] at hp; subst hp; simp
  | cons x r ih =>
    intro p hp
    by_cases h : x = 47
    · subst h
      rw [split_same] at hp
      simp at hp
      rcases hp with rfl | hp
      · simp
      · exact ih p hp
    · obtain ⟨q, qs, e1, e2⟩ := split_other 47 x r h
      rw [e2] at hp
      rw [e1] at ih
      simp at hp
      rcases hp with rfl | hp
      · have := ih q (by simp)
        simp [this]; exact fun e => h e.symm
      · exact ih p (by simp [hp])
def upS (way : ByteArray) : ByteArray := bs (joinL (splitL 47 way.data.toList).dropLast)
def lastL (l : List (List UInt8)) : List UInt8 := l.getLast?.getD []
def lastS (way : ByteArray) : ByteArray := bs (lastL (splitL 47 way.data.toList))
def namesL (k : ByteArray) : List (List UInt8) := if k.data.toList = [] then [] else splitL 47 k.data.toList
def okL (p : List UInt8) : Prop := p ≠ [] ∧ (47 : UInt8) ∉ p
theorem nameOk_ne {s : ByteArray} (h : nameOk s = true) : s.data.toList ≠ [] := by
  unfold nameOk at h
  simp only [Bool.and_eq_true] at h
  intro e
  have h1 := h.1.1.1.1
  rw [ByteArray.toList_eq, e] at h1
  cases h1
theorem way_ok {way : ByteArray} (h : (cutS 47 way).all nameOk = true) : ∀ p ∈ splitL 47 way.data.toList, okL p := by
  intro p hp
  refine ⟨?_, split_free _ p hp⟩
  rw [List.all_eq_true] at h
  exact nameOk_ne (h (bs p) (List.mem_map.2 ⟨p, hp, rfl⟩))
theorem way_ne {way : ByteArray} (h : (cutS 47 way).all nameOk = true) : way.data.toList ≠ [] := by
  intro e
  have := way_ok h [] (by rw [e]; simp [splitL])
  exact this.1 rfl
theorem names_way {way : ByteArray} (h : (cutS 47 way).all nameOk = true) : namesL way = splitL 47 way.data.toList := by
  unfold namesL; rw [if_neg (way_ne h)]
theorem join_ne {ps : List (List UInt8)} (h0 : ps ≠ []) (h : ∀ p ∈ ps, okL p) : joinL ps ≠ [] := by
  match ps, h0 with
  | [p], _ => exact (h p (by simp)).1
  | p :: q :: r, _ => simp [joinL]
theorem names_join {ps : List (List UInt8)} (h : ∀ p ∈ ps, okL p) : namesL (bs (joinL ps)) = ps := by
  by_cases h0 : ps = []
  · subst h0; rfl
  · unfold namesL
    rw [data_bs, if_neg (join_ne h0 h)]
    exact split_join ps h0 (fun p hp => (h p hp).2)
theorem names_up {way : ByteArray} (h : (cutS 47 way).all nameOk = true) : namesL (upS way) = (splitL 47 way.data.toList).dropLast :=
  names_join (fun p hp => way_ok h p (List.dropLast_subset _ hp))
theorem split_last {l : List UInt8} : splitL 47 l = (splitL 47 l).dropLast ++ [lastL (splitL 47 l)] := by
  unfold lastL
  rcases snoc_cases (splitL 47 l) with e | ⟨m, x, e⟩
  · exact absurd e (split_ne _ _)
  · rw [e]; simp
theorem names_parts {way : ByteArray} (h : (cutS 47 way).all nameOk = true) : namesL way = namesL (upS way) ++ [(lastS way).data.toList] := by
  rw [names_way h, names_up h]; exact split_last
theorem key_inj {a b : ByteArray} (h : namesL a = namesL b) : a = b := by
  apply bs_inj
  unfold namesL at h
  by_cases ha : a.data.toList = []
  · rw [if_pos ha] at h
    by_cases hb : b.data.toList = []
    · rw [ha, hb]
    · rw [if_neg hb] at h; exact absurd h.symm (split_ne _ _)
  · rw [if_neg ha] at h
    by_cases hb : b.data.toList = []
    · rw [if_pos hb] at h; exact absurd h (split_ne _ _)
    · rw [if_neg hb] at h
      rw [← join_split a.data.toList, h, join_split]
def dirD (n : NodeD) : Bool := n.kind == 100 || n.kind == 120
def look (K : List ByteArray) (x : ByteArray) : Option Nat := K.findIdx? (fun k => k.data.toList == x.data.toList)
theorem look_some {K : List ByteArray} {x : ByteArray} {a : Nat} (h : look K x = some a) : K[a]? = some x := by
  unfold look at h
  rw [List.findIdx?_eq_some_iff_getElem] at h
  obtain ⟨hl, h1, _⟩ := h
  rw [List.getElem?_eq_getElem hl]
  congr 1
  exact bs_inj (by simpa using h1)
theorem look_none {K : List ByteArray} {x : ByteArray} (h : look K x = none) : x ∉ K := by
  unfold look at h
  rw [List.findIdx?_eq_none_iff] at h
  intro hm
  have := h x hm
  simp at this
theorem look_of {K : List ByteArray} {x : ByteArray} {a : Nat} (hn : K.Nodup) (h : K[a]? = some x) : look K x = some a := by
  cases e : look K x with
  | none => exact absurd (List.mem_of_getElem? h) (look_none e)
  | some b =>
    have hb := look_some e
    obtain ⟨h1, h2⟩ := List.getElem?_eq_some_iff.1 h
    obtain ⟨h3, h4⟩ := List.getElem?_eq_some_iff.1 hb
    congr 1
    exact (List.getElem_inj hn).1 (h4.trans h2.symm)
def newD (a : Nat) (f : FldD) (nm : ByteArray) : NodeD := ⟨f.1, nm, (a : Int), f.2.1, f.2.2.1, f.2.2.2, []⟩
def addD (L : List NodeD) (a : Nat) (d n : NodeD) (ks : List Nat) : List NodeD := (L ++ [n]).set a ⟨d.kind, d.name, d.up, d.size, d.time, d.text, ks⟩
inductive PutD where
  | no (e : Int)
  | yes (L : List NodeD) (K : List ByteArray)
def putD (L : List NodeD) (K : List ByteArray) (ln : LineD) : PutD := match look K (upS ln.way) with
  | none => .no 6
  | some a => match L[a]? with
    | none => .no 6
    | some d => if dirD d = false then .no 7 else if (look K ln.way).isSome then .no 8 else
        .yes (addD L a d (newD a ln.fld (lastS ln.way)) (d.kids ++ [L.length])) (K ++ [ln.way])
abbrev Res := List NodeD × Int × Int
def goL : List ByteArray → Int → List NodeD → List ByteArray → Res
  | [], _, L, _ => (L, 0, 0)
  | y :: ys, pl, L, K => if ys.isEmpty then (if y.size = 0 then (L, 0, 0) else ([], 2, pl)) else
      match lineD y with
      | none => ([], 2, pl)
      | some ln => if 200 < L.length then ([], 4, pl) else
          match putD L K ln with
          | .no e => ([], e, pl)
          | .yes L' K' => goL ys (pl + (y.size : Int) + 1) L' K'
def rootD : NodeD := ⟨100, bs [], -1, 0, 0, bs [], []⟩
def loadD (s : ByteArray) : Res := if 20000 < s.size then ([], 1, 0) else goL (cutS 10 s) 0 [rootD] [bs []]
end Go.Proofs.YtfemboojdablhaaGreatDoor.Tre
namespace Go.Proofs.YtfemboojdablhaaGreatDoor.Tre
def nameIs (L : List NodeD) (name : ByteArray) (c : Nat) : Bool := match L[c]? with
  | some m => m.name.toList == name.toList
  | none => false
def kidOf (L : List NodeD) (ks : List Nat) (name : ByteArray) : Int := match ks.find? (nameIs L name) with
  | some c => (c : Int)
  | none => -1
theorem nameIs_iff {L : List NodeD} {name : ByteArray} {c : Nat} : nameIs L name c = true ↔ ∃ m, L[c]? = some m ∧ m.name = name := by
  unfold nameIs
  cases e : L[c]? with
  | none => simp
  | some m =>
    simp only [Option.some.injEq, beq_iff_eq]
    constructor
    · intro h; exact ⟨m, rfl, bs_inj (by rw [ByteArray.toList_eq, ByteArray.toList_eq] at h; exact h)⟩
    · rintro ⟨m', rfl, rfl⟩; rfl
theorem kidOf_cases (L : List NodeD) (ks : List Nat) (name : ByteArray) : (kidOf L ks name = -1 ∧ ∀ c ∈ ks, nameIs L name c = false) ∨ ∃ c : Nat, kidOf L ks name = (c : Int) ∧ c ∈ ks ∧ nameIs L name c = true := by
  unfold kidOf
  cases e : ks.find? (nameIs L name) with
  | none => left; rw [List.find?_eq_none] at e; exact ⟨rfl, fun c hc => by simpa using e c hc⟩
  | some d => right; exact ⟨d, rfl, List.mem_of_find?_eq_some e, List.find?_some e⟩
theorem kidOf_only {L : List NodeD} {ks : List Nat} {name : ByteArray} {c : Nat} (hc : c ∈ ks) (hn : nameIs L name c = true) (hu : ∀ d ∈ ks, nameIs L name d = true → d = c) : kidOf L ks name = (c : Int) := by
  rcases kidOf_cases L ks name with ⟨_, h⟩ | ⟨d, h, hd, hdn⟩
  · rw [h c hc] at hn; cases hn
  · rw [h, hu d hd hdn]
theorem kidOf_none' {L : List NodeD} {ks : List Nat} {name : ByteArray} (h : ∀ d ∈ ks, nameIs L name d = false) : kidOf L ks name = -1 := by
  rcases kidOf_cases L ks name with ⟨h, _⟩ | ⟨d, _, hd, hdn⟩
  · exact h
  · rw [h d hd] at hdn; cases hdn
structure KInv (L : List NodeD) (K : List ByteArray) : Prop where
  len : K.length = L.length
  pos : 0 < L.length
  root : ∀ n, L[0]? = some n → n.up = -1 ∧ n.name = bs [] ∧ n.kind = 100
  key0 : K[0]? = some (bs [])
  node : ∀ (i : Nat) (n : NodeD), L[i]? = some n → 0 < i → ∃ (way : ByteArray) (a : Nat), K[i]? = some way ∧ (cutS 47 way).all nameOk = true ∧ n.name = lastS way ∧ n.up = (a : Int) ∧ a < i ∧ K[a]? = some (upS way)
  kids : ∀ (i : Nat) (n : NodeD), L[i]? = some n → ∀ c, c ∈ n.kids ↔ (0 < c ∧ ∃ m, L[c]? = some m ∧ m.up = (i : Int))
  knd : ∀ (i : Nat) (n : NodeD), L[i]? = some n → n.kids.Nodup
  nodup : K.Nodup
  dir : ∀ (i : Nat) (n : NodeD), L[i]? = some n → n.kids ≠ [] → dirD n = true
  text : ∀ (i : Nat) (n : NodeD), L[i]? = some n → n.text.size ≤ 20000
  lim : L.length ≤ 201
  klen : ∀ (i : Nat) (n : NodeD), L[i]? = some n → n.kids.length ≤ L.length
theorem kinv_root : KInv [rootD] [bs []] := by
  have g : ∀ (i : Nat) (n : NodeD), [rootD][i]? = some n → i = 0 ∧ n = rootD := by
    intro i n h
    cases i with
    | zero => simp at h; exact ⟨rfl, h.symm⟩
    | succ i => simp at h
  refine ⟨rfl, by simp, ?_, rfl, ?_, ?_, ?_, by simp, ?_, ?_, by simp, ?_⟩
  · intro n h; obtain ⟨_, rfl⟩ := g 0 n h; exact ⟨rfl, rfl, rfl⟩
  · intro i n h hi; obtain ⟨rfl, _⟩ := g i n h; omega
  · intro i n h c
    obtain ⟨rfl, rfl⟩ := g i n h
    constructor
    · intro hc; cases hc
    · rintro ⟨h0, m, hm, _⟩; have := (g c m hm).1; omega
  · intro i n h; obtain ⟨_, rfl⟩ := g i n h; simp [rootD]
  · intro i n h hk; obtain ⟨_, rfl⟩ := g i n h; exact absurd rfl hk
  · intro i n h; obtain ⟨_, rfl⟩ := g i n h; exact Nat.zero_le _
  · intro i n h; obtain ⟨_, rfl⟩ := g i n h; exact Nat.zero_le _
theorem KInv.key {L : List NodeD} {K : List ByteArray} (h : KInv L K) {i : Nat} {n : NodeD} (hi : L[i]? = some n) : ∃ k, K[i]? = some k := by
  have := (List.getElem?_eq_some_iff.1 hi).1
  exact ⟨_, List.getElem?_eq_getElem (by rw [h.len]; exact this)⟩
theorem KInv.node' {L : List NodeD} {K : List ByteArray} (h : KInv L K) {i : Nat} {k : ByteArray} (hi : K[i]? = some k) : ∃ n, L[i]? = some n := by
  have := (List.getElem?_eq_some_iff.1 hi).1
  exact ⟨_, List.getElem?_eq_getElem (by rw [← h.len]; exact this)⟩
theorem KInv.inj {L : List NodeD} {K : List ByteArray} (h : KInv L K) {i j : Nat} {k : ByteArray} (hi : K[i]? = some k) (hj : K[j]? = some k) : i = j := by
  have a := look_of h.nodup hi
  have b := look_of h.nodup hj
  rw [a] at b; exact Option.some.inj b
theorem KInv.kid_names {L : List NodeD} {K : List ByteArray} (h : KInv L K) {a c : Nat} {d m : NodeD} {ka kc : ByteArray} (ha : L[a]? = some d) (hka : K[a]? = some ka) (hm : L[c]? = some m) (hkc : K[c]? = some kc) (hc : c ∈ d.kids) : namesL kc = namesL ka ++ [m.name.data.toList] ∧ (cutS 47 kc).all nameOk = true ∧ a < c := by
  obtain ⟨h0, m', hm', hu⟩ := (h.kids a d ha c).1 hc
  rw [hm] at hm'; cases hm'
  obtain ⟨way, b, hw, hok, hnm, hub, hlt, hkb⟩ := h.node c m hm h0
  rw [hkc] at hw; cases hw
  have : b = a := by rw [hu] at hub; omega
  subst this
  rw [hka] at hkb; cases hkb
  rw [hnm]
  exact ⟨names_parts hok, hok, hlt⟩
theorem KInv.kid_only {L : List NodeD} {K : List ByteArray} (h : KInv L K) {a : Nat} {d : NodeD} (ha : L[a]? = some d) {x : ByteArray} {c e : Nat} (hc : c ∈ d.kids) (he : e ∈ d.kids) (hcn : nameIs L x c = true) (hen : nameIs L x e = true) : e = c := by
  obtain ⟨ka, hka⟩ := h.key ha
  obtain ⟨m, hm, rfl⟩ := nameIs_iff.1 hcn
  obtain ⟨m2, hm2, hx⟩ := nameIs_iff.1 hen
  obtain ⟨kc, hkc⟩ := h.key hm
  obtain ⟨ke, hke⟩ := h.key hm2
  have e1 := (h.kid_names ha hka hm hkc hc).1
  have e2 := (h.kid_names ha hka hm2 hke he).1
  rw [hx, ← e1] at e2
  have := key_inj e2
  subst this
  exact h.inj hke hkc
def stepK (L : List NodeD) (a : Nat) (x : ByteArray) : Option Nat := match L[a]? with
  | none => none
  | some d => if kidOf L d.kids x = -1 then none else some (kidOf L d.kids x).toNat
def walkK (L : List NodeD) (ns : List ByteArray) : Option Nat := ns.foldlM (stepK L) 0
theorem walk_snoc (L : List NodeD) (ns : List ByteArray) (x : ByteArray) : walkK L (ns ++ [x]) = (walkK L ns).bind (fun a => stepK L a x) := by
  unfold walkK
  rw [List.foldlM_append]
  cases ns.foldlM (stepK L) 0 with
  | none => rfl
  | some a => simp
theorem step_iff {L : List NodeD} {K : List ByteArray} (h : KInv L K) {a : Nat} {d : NodeD} {ka : ByteArray} (ha : L[a]? = some d) (hka : K[a]? = some ka) (x : ByteArray) (c : Nat) : stepK L a x = some c ↔ ∃ k, K[c]? = some k ∧ namesL k = namesL ka ++ [x.data.toList] := by
  unfold stepK
  rw [ha]
  show (if kidOf L d.kids x = -1 then none else some (kidOf L d.kids x).toNat) = some c ↔ _
  constructor
  · intro hs
    rcases kidOf_cases L d.kids x with ⟨e, _⟩ | ⟨c', e, hc', hn⟩
    · rw [e, if_pos rfl] at hs; cases hs
    · rw [e, if_neg (by omega)] at hs
      have : c' = c := by simpa using hs
      subst this
      obtain ⟨m, hm, rfl⟩ := nameIs_iff.1 hn
      obtain ⟨kc, hkc⟩ := h.key hm
      exact ⟨kc, hkc, (h.kid_names ha hka hm hkc hc').1⟩
  · rintro ⟨k, hk, hnames⟩
    obtain ⟨m, hm⟩ := h.node' hk
    have h0 : 0 < c := by
      by_cases hc0 : c = 0
      · subst hc0
        rw [h.key0] at hk; cases hk
        simp [namesL, data_bs] at hnames
      · omega
    obtain ⟨way, b, hw, hok, hnm, hub, hlt, hkb⟩ := h.node c m hm h0
    rw [hk] at hw; cases hw
    rw [names_parts hok] at hnames
    have e1 := List.append_inj' hnames rfl
    have e2 : upS k = ka := key_inj e1.1
    rw [e2] at hkb
    have e3 : b = a := h.inj hkb hka
    subst e3
    have hck : c ∈ d.kids := (h.kids b d ha c).2 ⟨h0, m, hm, hub⟩
    have hcn : nameIs L x c = true := nameIs_iff.2 ⟨m, hm, by rw [hnm]; apply bs_inj; simpa using e1.2⟩
    rw [kidOf_only hck hcn (fun e he hen => h.kid_only ha hck he hcn hen), if_neg (by omega)]
    simp
theorem walk_iff {L : List NodeD} {K : List ByteArray} (h : KInv L K) (n : Nat) : ∀ (ns : List ByteArray), ns.length = n → ∀ c, walkK L ns = some c ↔ ∃ k, K[c]? = some k ∧ namesL k = ns.map (fun x => x.data.toList) := by
  induction n with
  | zero =>
    intro ns hl c
    rw [List.eq_nil_of_length_eq_zero hl]
    show (some 0 = some c) ↔ _
    constructor
    · intro e; cases e; exact ⟨_, h.key0, rfl⟩
    · rintro ⟨k, hk, hn⟩
      have : k = bs [] := key_inj hn
      subst this
      rw [h.inj h.key0 hk]
  | succ n ih =>
    intro ns hl c
    rcases snoc_cases ns with rfl | ⟨m, x, rfl⟩
    · simp at hl
    · have hm : m.length = n := by simp at hl; omega
      rw [walk_snoc, List.map_append]
      constructor
      · intro hb
        cases e : walkK L m with
        | none => rw [e] at hb; cases hb
        | some a =>
          rw [e] at hb
          obtain ⟨ka, hka, hkn⟩ := (ih m hm a).1 e
          obtain ⟨d, hd⟩ := h.node' hka
          obtain ⟨k, hk, hn⟩ := (step_iff h hd hka x c).1 hb
          exact ⟨k, hk, by rw [hn, hkn]; rfl⟩
      · rintro ⟨k, hk, hn⟩
        obtain ⟨nd, hnd⟩ := h.node' hk
        have h0 : 0 < c := by
          by_cases hc0 : c = 0
          · subst hc0
            rw [h.key0] at hk; cases hk
            simp [namesL, data_bs] at hn
          · omega
        obtain ⟨way, b, hw, hok, hnm, hub, hlt, hkb⟩ := h.node c nd hnd h0
        rw [hk] at hw; cases hw
        have hn2 := hn
        rw [names_parts hok] at hn2
        have e1 := List.append_inj' hn2 rfl
        have hw := (ih m hm b).2 ⟨_, hkb, e1.1⟩
        rw [hw]
        obtain ⟨d, hd⟩ := h.node' hkb
        exact (step_iff h hd hkb x c).2 ⟨k, hk, by rw [hn, e1.1]; rfl⟩
theorem cut_names (way : ByteArray) : (cutS 47 way).map (fun x => x.data.toList) = splitL 47 way.data.toList := by
  unfold cutS; rw [List.map_map]
  have : (fun x : ByteArray => x.data.toList) ∘ bs = id := by funext l; rfl
  rw [this, List.map_id]
theorem walk_up {L : List NodeD} {K : List ByteArray} (h : KInv L K) {way : ByteArray} (hok : (cutS 47 way).all nameOk = true) : walkK L (cutS 47 way).dropLast = look K (upS way) := by
  have key : ∀ c, walkK L (cutS 47 way).dropLast = some c ↔ look K (upS way) = some c := by
    intro c
    rw [walk_iff h _ _ rfl c, List.map_dropLast, cut_names, ← names_up hok]
    constructor
    · rintro ⟨k, hk, hn⟩
      rw [key_inj hn] at hk
      exact look_of h.nodup hk
    · intro hl; exact ⟨_, look_some hl, rfl⟩
  cases e : walkK L (cutS 47 way).dropLast with
  | some c => exact ((key c).1 e).symm
  | none =>
    cases e2 : look K (upS way) with
    | none => rfl
    | some c => rw [(key c).2 e2] at e; cases e
theorem kid_taken {L : List NodeD} {K : List ByteArray} (h : KInv L K) {way : ByteArray} (hok : (cutS 47 way).all nameOk = true) {a : Nat} {d : NodeD} (ha : L[a]? = some d) (hka : K[a]? = some (upS way)) : (look K way).isSome = !(decide (kidOf L d.kids (lastS way) = -1)) := by
  cases e : look K way with
  | none =>
    rcases kidOf_cases L d.kids (lastS way) with ⟨e2, _⟩ | ⟨c, e2, hc, hn⟩
    · rw [e2]; rfl
    · exfalso
      have hs : stepK L a (lastS way) = some c := by unfold stepK; rw [ha]; show (if _ then _ else _) = _; rw [e2, if_neg (by omega)]; simp
      obtain ⟨k, hk, hkn⟩ := (step_iff h ha hka _ c).1 hs
      rw [← names_parts hok] at hkn
      rw [key_inj hkn] at hk
      exact look_none e (List.mem_of_getElem? hk)
  | some c =>
    have hs := (step_iff h ha hka (lastS way) c).2 ⟨way, look_some e, names_parts hok⟩
    unfold stepK at hs
    rw [ha] at hs
    by_cases h1 : kidOf L d.kids (lastS way) = -1
    · have hs2 : (if kidOf L d.kids (lastS way) = -1 then none else some (kidOf L d.kids (lastS way)).toNat) = some c := hs
      rw [if_pos h1] at hs2; cases hs2
    · simp [h1]
theorem add_get {L : List NodeD} {a : Nat} {d n : NodeD} {ks : List Nat} (hd : L[a]? = some d) (i : Nat) (m : NodeD) : (addD L a d n ks)[i]? = some m ↔ (i = a ∧ m = ⟨d.kind, d.name, d.up, d.size, d.time, d.text, ks⟩) ∨ (i ≠ a ∧ L[i]? = some m) ∨ (i ≠ a ∧ i = L.length ∧ m = n) := by
  have hlt := (List.getElem?_eq_some_iff.1 hd).1
  unfold addD
  by_cases e : i = a
  · subst e
    rw [List.getElem?_set_self (by simp; omega)]
    constructor
    · intro h; exact .inl ⟨rfl, (Option.some.inj h).symm⟩
    · rintro (⟨_, rfl⟩ | ⟨h, _⟩ | ⟨h, _⟩)
      · rfl
      · exact absurd rfl h
      · exact absurd rfl h
  · rw [List.getElem?_set_ne (fun h => e h.symm)]
    by_cases hi : i < L.length
    · rw [List.getElem?_append_left hi]
      constructor
      · intro h; exact .inr (.inl ⟨e, h⟩)
      · rintro (⟨h, _⟩ | ⟨_, h⟩ | ⟨_, h, _⟩)
        · exact absurd h e
        · exact h
        · omega
    · rw [List.getElem?_append_right (by omega)]
      constructor
      · intro hm
        have hi0 : i - L.length = 0 := by
          have := (List.getElem?_eq_some_iff.1 hm).1
          simp at this; omega
        rw [hi0] at hm
        simp at hm
        exact .inr (.inr ⟨e, by omega, hm.symm⟩)
      · rintro (⟨h, _⟩ | ⟨_, h⟩ | ⟨_, h, rfl⟩)
        · exact absurd h e
        · have := (List.getElem?_eq_some_iff.1 h).1; omega
        · rw [h]; simp
theorem add_length (L : List NodeD) (a : Nat) (d n : NodeD) (ks : List Nat) : (addD L a d n ks).length = L.length + 1 := by simp [addD]
theorem kinv_add {L : List NodeD} {K : List ByteArray} (h : KInv L K) {a : Nat} {d : NodeD} {f : FldD} {way : ByteArray} (hok : (cutS 47 way).all nameOk = true) (ha : L[a]? = some d) (hka : K[a]? = some (upS way)) (hdir : dirD d = true) (hnew : look K way = none) (ht : f.2.2.2.size ≤ 20000) (hl : L.length ≤ 200) :
    KInv (addD L a d (newD a f (lastS way)) (d.kids ++ [L.length])) (K ++ [way]) := by
  have hlt := (List.getElem?_eq_some_iff.1 ha).1
  have hkl : K.length = L.length := h.len
  have old : ∀ {i : Nat} {k : ByteArray}, K[i]? = some k → (K ++ [way])[i]? = some k := by
    intro i k hi
    rw [List.getElem?_append_left (List.getElem?_eq_some_iff.1 hi).1]; exact hi
  have hup : ∀ (i : Nat) (m : NodeD), L[i]? = some m → ∃ m', (addD L a d (newD a f (lastS way)) (d.kids ++ [L.length]))[i]? = some m' ∧ m'.up = m.up := by
    intro i m hm
    by_cases e : i = a
    · subst e; rw [ha] at hm; cases hm
      exact ⟨_, (add_get ha i _).2 (.inl ⟨rfl, rfl⟩), rfl⟩
    · exact ⟨m, (add_get ha i m).2 (.inr (.inl ⟨e, hm⟩)), rfl⟩
  have hnewg : (addD L a d (newD a f (lastS way)) (d.kids ++ [L.length]))[L.length]? = some (newD a f (lastS way)) := (add_get ha _ _).2 (.inr (.inr ⟨by omega, rfl, rfl⟩))
  have hback : ∀ (c : Nat) (m : NodeD), (addD L a d (newD a f (lastS way)) (d.kids ++ [L.length]))[c]? = some m → (c = L.length ∧ m.up = (a : Int)) ∨ ∃ m', L[c]? = some m' ∧ m'.up = m.up := by
    intro c m hm
    rcases (add_get ha c m).1 hm with ⟨rfl, rfl⟩ | ⟨_, hm2⟩ | ⟨_, rfl, rfl⟩
    · exact .inr ⟨d, ha, rfl⟩
    · exact .inr ⟨m, hm2, rfl⟩
    · exact .inl ⟨rfl, rfl⟩
  refine ⟨by rw [add_length]; simp [hkl], by rw [add_length]; omega, ?_, old h.key0, ?_, ?_, ?_, ?_, ?_, ?_, by rw [add_length]; omega, ?_⟩
  · intro n hn
    rcases (add_get ha 0 n).1 hn with ⟨e, rfl⟩ | ⟨_, hn2⟩ | ⟨_, e, _⟩
    · subst e; exact h.root d ha
    · exact h.root n hn2
    · omega
  · intro i n hn hi
    rcases (add_get ha i n).1 hn with ⟨rfl, rfl⟩ | ⟨_, hn2⟩ | ⟨_, rfl, rfl⟩
    · obtain ⟨w, b, h1, h2, h3, h4, h5, h6⟩ := h.node _ d ha hi
      exact ⟨w, b, old h1, h2, h3, h4, h5, old h6⟩
    · obtain ⟨w, b, h1, h2, h3, h4, h5, h6⟩ := h.node i n hn2 hi
      exact ⟨w, b, old h1, h2, h3, h4, h5, old h6⟩
    · refine ⟨way, a, ?_, hok, rfl, rfl, hlt, old hka⟩
      rw [List.getElem?_append_right (by omega), hkl]; simp
  · intro i n hn c
    have hnokid : ∀ (i : Nat) (n : NodeD), L[i]? = some n → ∀ c ∈ n.kids, c < L.length := by
      intro i n hn c hc
      obtain ⟨_, m, hm, _⟩ := (h.kids i n hn c).1 hc
      exact (List.getElem?_eq_some_iff.1 hm).1
    rcases (add_get ha i n).1 hn with ⟨rfl, rfl⟩ | ⟨hne, hn2⟩ | ⟨hne, rfl, rfl⟩
    · show c ∈ d.kids ++ [L.length] ↔ _
      rw [List.mem_append]
      constructor
      · rintro (hc | hc)
        · obtain ⟨h0, m, hm, hu⟩ := (h.kids i d ha c).1 hc
          obtain ⟨m', hm', hu'⟩ := hup c m hm
          exact ⟨h0, m', hm', hu'.trans hu⟩
        · simp at hc; subst hc; exact ⟨by omega, _, hnewg, rfl⟩
      · rintro ⟨h0, m, hm, hu⟩
        rcases hback c m hm with ⟨rfl, _⟩ | ⟨m', hm', hu'⟩
        · right; simp
        · left; exact (h.kids i d ha c).2 ⟨h0, m', hm', hu'.trans hu⟩
    · constructor
      · intro hc
        obtain ⟨h0, m, hm, hu⟩ := (h.kids i n hn2 c).1 hc
        obtain ⟨m', hm', hu'⟩ := hup c m hm
        exact ⟨h0, m', hm', hu'.trans hu⟩
      · rintro ⟨h0, m, hm, hu⟩
        rcases hback c m hm with ⟨rfl, e⟩ | ⟨m', hm', hu'⟩
        · exfalso; rw [e] at hu; omega
        · exact (h.kids i n hn2 c).2 ⟨h0, m', hm', hu'.trans hu⟩
    · show c ∈ ([] : List Nat) ↔ _
      constructor
      · intro hc; cases hc
      · rintro ⟨h0, m, hm, hu⟩
        exfalso
        rcases hback c m hm with ⟨rfl, e⟩ | ⟨m', hm', hu'⟩
        · rw [e] at hu; omega
        · obtain ⟨_, b, _, _, _, hub, hlb, _⟩ := h.node c m' hm' h0
          have := (List.getElem?_eq_some_iff.1 hm').1
          rw [hu', hu] at hub; omega
  · intro i n hn
    rcases (add_get ha i n).1 hn with ⟨rfl, rfl⟩ | ⟨_, hn2⟩ | ⟨_, rfl, rfl⟩
    · show (d.kids ++ [L.length]).Nodup
      rw [List.nodup_append]
      refine ⟨h.knd _ d ha, by simp, ?_⟩
      intro x hx y hy e
      simp at hy; subst hy
      subst e
      obtain ⟨_, m, hm, _⟩ := (h.kids i d ha _).1 hx
      have := (List.getElem?_eq_some_iff.1 hm).1
      omega
    · exact h.knd i n hn2
    · exact List.nodup_nil
  · rw [List.nodup_append]
    refine ⟨h.nodup, by simp, ?_⟩
    intro x hx y hy e
    simp at hy; subst hy; subst e
    exact look_none hnew hx
  · intro i n hn hk
    rcases (add_get ha i n).1 hn with ⟨rfl, rfl⟩ | ⟨_, hn2⟩ | ⟨_, rfl, rfl⟩
    · exact hdir
    · exact h.dir i n hn2 hk
    · exact absurd rfl hk
  · intro i n hn
    rcases (add_get ha i n).1 hn with ⟨rfl, rfl⟩ | ⟨_, hn2⟩ | ⟨_, rfl, rfl⟩
    · exact h.text _ d ha
    · exact h.text i n hn2
    · exact ht
  · intro i n hn
    rw [add_length]
    rcases (add_get ha i n).1 hn with ⟨rfl, rfl⟩ | ⟨_, hn2⟩ | ⟨_, rfl, rfl⟩
    · have := h.klen _ d ha; simp; omega
    · have := h.klen i n hn2; omega
    · exact Nat.zero_le _
theorem KInv.kid_lt {L : List NodeD} {K : List ByteArray} (h : KInv L K) {i : Nat} {n : NodeD} (hi : L[i]? = some n) : ∀ c ∈ n.kids, c < L.length := fun c hc => by
  obtain ⟨_, m, hm, _⟩ := (h.kids i n hi c).1 hc
  exact (List.getElem?_eq_some_iff.1 hm).1
theorem walk_none {L : List NodeD} {ns : List ByteArray} {i : Nat} (h : walkK L (ns.take i) = none) : walkK L ns = none := by
  unfold walkK at h ⊢
  rw [← List.take_append_drop i ns, List.foldlM_append, h]; rfl
theorem walk_next {L : List NodeD} {ns : List ByteArray} {i a : Nat} {x : ByteArray} (h : walkK L (ns.take i) = some a) (hx : ns[i]? = some x) : walkK L (ns.take (i + 1)) = stepK L a x := by
  obtain ⟨hl, he⟩ := List.getElem?_eq_some_iff.1 hx
  rw [List.take_succ_eq_append_getElem hl, he, walk_snoc, h]; rfl
theorem put_none {L : List NodeD} {K : List ByteArray} (h : KInv L K) {ln : LineD} (hok : (cutS 47 ln.way).all nameOk = true) (hw : walkK L (cutS 47 ln.way).dropLast = none) : putD L K ln = .no 6 := by
  rw [walk_up h hok] at hw
  unfold putD; rw [hw]
theorem put_some {L : List NodeD} {K : List ByteArray} (h : KInv L K) {ln : LineD} (hok : (cutS 47 ln.way).all nameOk = true) {a : Nat} {d : NodeD} (hw : walkK L (cutS 47 ln.way).dropLast = some a) (ha : L[a]? = some d) :
    putD L K ln = (if dirD d = false then .no 7 else if kidOf L d.kids (lastS ln.way) = -1 then .yes (addD L a d (newD a ln.fld (lastS ln.way)) (d.kids ++ [L.length])) (K ++ [ln.way]) else .no 8) ∧ K[a]? = some (upS ln.way) := by
  rw [walk_up h hok] at hw
  have hka := look_some hw
  refine ⟨?_, hka⟩
  unfold putD; rw [hw]
  show (match L[a]? with | none => PutD.no 6 | some d => _) = _
  rw [ha]
  show (if dirD d = false then PutD.no 7 else if (look K ln.way).isSome = true then _ else _) = _
  rw [kid_taken h hok ha hka]
  by_cases h1 : dirD d = false
  · rw [if_pos h1, if_pos h1]
  · rw [if_neg h1, if_neg h1]
    by_cases h2 : kidOf L d.kids (lastS ln.way) = -1
    · rw [if_pos h2, if_neg (by simp [h2])]
    · rw [if_neg h2, if_pos (by simp [h2])]
theorem put_inv {L L' : List NodeD} {K K' : List ByteArray} (h : KInv L K) {ln : LineD} (hok : (cutS 47 ln.way).all nameOk = true) (ht : ln.fld.2.2.2.size ≤ 20000) (hl : L.length ≤ 200) (hp : putD L K ln = .yes L' K') : KInv L' K' ∧ L'.length = L.length + 1 := by
  unfold putD at hp
  cases e : look K (upS ln.way) with
  | none => rw [e] at hp; cases hp
  | some a =>
    rw [e] at hp
    obtain ⟨d, hd⟩ := h.node' (look_some e)
    have hp2 : (match L[a]? with | none => PutD.no 6 | some d => if dirD d = false then PutD.no 7 else if (look K ln.way).isSome = true then PutD.no 8 else PutD.yes (addD L a d (newD a ln.fld (lastS ln.way)) (d.kids ++ [L.length])) (K ++ [ln.way])) = .yes L' K' := hp
    rw [hd] at hp2
    have hp3 : (if dirD d = false then PutD.no 7 else if (look K ln.way).isSome = true then PutD.no 8 else PutD.yes (addD L a d (newD a ln.fld (lastS ln.way)) (d.kids ++ [L.length])) (K ++ [ln.way])) = .yes L' K' := hp2
    by_cases h1 : dirD d = false
    · rw [if_pos h1] at hp3; cases hp3
    · rw [if_neg h1] at hp3
      by_cases h2 : (look K ln.way).isSome = true
      · rw [if_pos h2] at hp3; cases hp3
      · rw [if_neg h2] at hp3
        cases hp3
        exact ⟨kinv_add h hok hd (look_some e) (by simpa using h1) (by simpa using h2) ht hl, add_length _ _ _ _ _⟩
end Go.Proofs.YtfemboojdablhaaGreatDoor.Tre
namespace Go.Proofs.YtfemboojdablhaaGreatDoor.Tre
theorem less_trans : ∀ (a b c : List UInt8), Op.bytesLess a b = true → Op.bytesLess b c = true → Op.bytesLess a c = true := by
  intro a
  induction a with
  | nil =>
    intro b c h1 h2
    cases b with
    | nil => simp [Op.bytesLess] at h1
    | cons y b => cases c with
      | nil => simp [Op.bytesLess] at h2
      | cons z c => rfl
  | cons x a ih =>
    intro b c h1 h2
    cases b with
    | nil => simp [Op.bytesLess] at h1
    | cons y b =>
      cases c with
      | nil => simp [Op.bytesLess] at h2
      | cons z c =>
        simp only [Op.bytesLess, Bool.or_eq_true, decide_eq_true_eq, Bool.and_eq_true, beq_iff_eq] at h1 h2 ⊢
        rcases h1 with h1 | ⟨rfl, h1⟩
        · rcases h2 with h2 | ⟨rfl, h2⟩
          · left; exact UInt8.lt_trans h1 h2
          · left; exact h1
        · rcases h2 with h2 | ⟨rfl, h2⟩
          · left; exact h2
          · right; exact ⟨rfl, ih b c h1 h2⟩
theorem less_total : ∀ (a b : List UInt8), a ≠ b → Op.bytesLess a b = false → Op.bytesLess b a = true := by
  intro a
  induction a with
  | nil =>
    intro b hne h
    cases b with
    | nil => exact absurd rfl hne
    | cons y b => simp [Op.bytesLess] at h
  | cons x a ih =>
    intro b hne h
    cases b with
    | nil => rfl
    | cons y b =>
      simp only [Op.bytesLess, Bool.or_eq_true, decide_eq_true_eq, Bool.and_eq_true, beq_iff_eq, Bool.or_eq_false_iff, decide_eq_false_iff_not, Bool.and_eq_false_iff, beq_eq_false_iff_ne] at h ⊢
      by_cases e : x = y
      · subst e
        right
        refine ⟨rfl, ih b (fun e => hne (by rw [e])) ?_⟩
        rcases h.2 with h2 | h2
        · exact absurd rfl h2
        · exact h2
      · left
        have h1 : ¬ x.toNat < y.toNat := fun hh => h.1 (UInt8.lt_iff_toNat_lt.2 hh)
        have h2 : x.toNat ≠ y.toNat := fun hh => e (UInt8.toNat_inj.1 hh)
        exact UInt8.lt_iff_toNat_lt.2 (by omega)
def nmL (L : List NodeD) (c : Nat) : List UInt8 := match L[c]? with
  | some m => m.name.toList
  | none => []
def ltN (L : List NodeD) (a b : Nat) : Prop := Op.bytesLess (nmL L a) (nmL L b) = true
theorem nmL_of {L : List NodeD} {c : Nat} {m : NodeD} (h : L[c]? = some m) : nmL L c = m.name.toList := by unfold nmL; rw [h]
def withKids (n : NodeD) (ks : List Nat) : NodeD := ⟨n.kind, n.name, n.up, n.size, n.time, n.text, ks⟩
structure Srt (R L : List NodeD) : Prop where
  len : L.length = R.length
  node : ∀ (i : Nat) (n : NodeD), R[i]? = some n → ∃ ks, L[i]? = some (withKids n ks) ∧ ks.Perm n.kids ∧ ks.Pairwise (ltN R)
theorem srt_root : Srt [rootD] [rootD] := by
  refine ⟨rfl, fun i n h => ?_⟩
  cases i with
  | zero => simp at h; subst h; exact ⟨[], rfl, List.Perm.refl _, List.Pairwise.nil⟩
  | succ i => simp at h
theorem Srt.back {R L : List NodeD} (h : Srt R L) {i : Nat} {m : NodeD} (hm : L[i]? = some m) : ∃ n, R[i]? = some n ∧ m = withKids n m.kids ∧ m.kids.Perm n.kids ∧ m.kids.Pairwise (ltN R) := by
  have hi := (List.getElem?_eq_some_iff.1 hm).1
  obtain ⟨n, hn⟩ : ∃ n, R[i]? = some n := ⟨_, List.getElem?_eq_getElem (by rw [← h.len]; exact hi)⟩
  obtain ⟨ks, h1, h2, h3⟩ := h.node i n hn
  rw [hm] at h1; cases h1
  exact ⟨n, hn, rfl, h2, h3⟩
theorem Srt.name {R L : List NodeD} (h : Srt R L) (c : Nat) : nmL L c = nmL R c := by
  unfold nmL
  cases e : R[c]? with
  | none => rw [List.getElem?_eq_none (by rw [h.len]; exact List.getElem?_eq_none_iff.1 e)]
  | some n => obtain ⟨ks, h1, _⟩ := h.node c n e; rw [h1]; rfl
theorem Srt.is {R L : List NodeD} (h : Srt R L) (x : ByteArray) (c : Nat) : nameIs L x c = nameIs R x c := by
  unfold nameIs
  cases e : R[c]? with
  | none => rw [List.getElem?_eq_none (by rw [h.len]; exact List.getElem?_eq_none_iff.1 e)]
  | some n => obtain ⟨ks, h1, _⟩ := h.node c n e; rw [h1]; rfl
theorem Srt.kid {R L : List NodeD} {K : List ByteArray} (h : Srt R L) (hk : KInv R K) {a : Nat} {d d' : NodeD} (hd : R[a]? = some d) (hd' : L[a]? = some d') (x : ByteArray) : kidOf L d'.kids x = kidOf R d.kids x := by
  obtain ⟨n, hn, _, hp, _⟩ := h.back hd'
  rw [hd] at hn; cases hn
  rcases kidOf_cases R d.kids x with ⟨e, hno⟩ | ⟨c, e, hc, hcn⟩
  · rw [e]; exact kidOf_none' (fun c hc => by rw [h.is]; exact hno c (hp.mem_iff.1 hc))
  · rw [e]
    refine kidOf_only (hp.mem_iff.2 hc) (by rw [h.is]; exact hcn) (fun y hy hyn => ?_)
    rw [h.is] at hyn
    exact hk.kid_only hd hc (hp.mem_iff.1 hy) hcn hyn
theorem nm_add {L : List NodeD} {a : Nat} {d n : NodeD} {ks : List Nat} (hd : L[a]? = some d) {c : Nat} (hc : c < L.length) : nmL (addD L a d n ks) c = nmL L c := by
  obtain ⟨m, hm⟩ : ∃ m, L[c]? = some m := ⟨_, List.getElem?_eq_getElem hc⟩
  rw [nmL_of hm]
  by_cases e : c = a
  · subst e
    rw [hd] at hm; cases hm
    have h := (add_get (n := n) (ks := ks) hd c _).2 (.inl ⟨rfl, rfl⟩)
    rw [nmL_of h]
  · exact nmL_of ((add_get hd c m).2 (.inr (.inl ⟨e, hm⟩)))
theorem nm_new {L : List NodeD} {a : Nat} {d n : NodeD} {ks : List Nat} (hd : L[a]? = some d) : nmL (addD L a d n ks) L.length = n.name.toList :=
  nmL_of ((add_get hd _ n).2 (.inr (.inr ⟨by have := (List.getElem?_eq_some_iff.1 hd).1; omega, rfl, rfl⟩)))
theorem pairwise_same {L L' : List NodeD} {ks : List Nat} (h : ∀ c ∈ ks, nmL L' c = nmL L c) (hp : ks.Pairwise (ltN L)) : ks.Pairwise (ltN L') := by
  refine List.Pairwise.imp_of_mem (fun {a b} ha hb hab => ?_) hp
  unfold ltN; rw [h a ha, h b hb]; exact hab
theorem Srt.add {R L : List NodeD} {K : List ByteArray} (h : Srt R L) (hk : KInv R K) {a : Nat} {d d' n : NodeD} {ks : List Nat} (hd : R[a]? = some d) (hd' : L[a]? = some d') (hn : n.kids = []) (hp : ks.Perm (d'.kids ++ [L.length])) (hs : ks.Pairwise (ltN (addD L a d' n ks))) :
    Srt (addD R a d n (d.kids ++ [R.length])) (addD L a d' n ks) := by
  obtain ⟨d2, hd2, hdk, hdp, hds⟩ := h.back hd'
  rw [hd] at hd2; cases hd2
  have hkl : ∀ (i : Nat) (m : NodeD), R[i]? = some m → ∀ c ∈ m.kids, c < R.length := by
    intro i m hm c hc
    obtain ⟨_, m2, hm2, _⟩ := (hk.kids i m hm c).1 hc
    exact (List.getElem?_eq_some_iff.1 hm2).1
  have hnm : ∀ c, c ≤ R.length → nmL (addD R a d n (d.kids ++ [R.length])) c = nmL (addD L a d' n ks) c := by
    intro c hc
    by_cases e : c < R.length
    · rw [nm_add hd e, nm_add hd' (by rw [h.len]; exact e), h.name]
    · have : c = R.length := by omega
      subst this
      rw [nm_new hd]
      have := nm_new (n := n) (ks := ks) hd'
      rw [h.len] at this; exact this.symm
  refine ⟨by rw [add_length, add_length, h.len], fun i m hm => ?_⟩
  rcases (add_get hd i m).1 hm with ⟨rfl, rfl⟩ | ⟨hne, hm2⟩ | ⟨hne, rfl, rfl⟩
  · refine ⟨ks, ?_, ?_, ?_⟩
    · refine (add_get hd' i _).2 (.inl ⟨rfl, ?_⟩)
      rw [hdk]; rfl
    · rw [h.len] at hp
      exact hp.trans (List.Perm.append_right _ hdp)
    · refine pairwise_same (fun c hc => hnm c ?_) hs
      have := hp.mem_iff.1 hc
      rw [List.mem_append] at this
      rcases this with hc | hc
      · exact Nat.le_of_lt (hkl i d hd c (hdp.mem_iff.1 hc))
      · simp at hc; rw [hc, h.len]; exact Nat.le_refl _
  · obtain ⟨ks2, h1, h2, h3⟩ := h.node i m hm2
    refine ⟨ks2, (add_get hd' i _).2 (.inr (.inl ⟨hne, h1⟩)), h2, pairwise_same (fun c hc => ?_) h3⟩
    exact nm_add hd (hkl i m hm2 c (h2.mem_iff.1 hc))
  · refine ⟨[], (add_get hd' _ _).2 (.inr (.inr ⟨by rw [h.len] at *; exact hne, h.len.symm, ?_⟩)), by rw [hn], List.Pairwise.nil⟩
    unfold withKids; rw [← hn]
structure Ins (lt : Nat → Nat → Prop) (old : List Nat) (k : Nat) (ks : List Nat) (j : Nat) : Prop where
  shape : ∃ pre suf, ks = pre ++ k :: suf ∧ old = pre ++ suf ∧ pre.length = j ∧ ∀ c ∈ suf, lt k c
theorem ins_start (lt : Nat → Nat → Prop) (old : List Nat) (k : Nat) : Ins lt old k (old ++ [k]) old.length := ⟨⟨old, [], rfl, by simp, rfl, by simp⟩⟩
theorem Ins.perm {lt : Nat → Nat → Prop} {old : List Nat} {k : Nat} {ks : List Nat} {j : Nat} (h : Ins lt old k ks j) : ks.Perm (old ++ [k]) := by
  obtain ⟨pre, suf, rfl, rfl, _, _⟩ := h.shape
  have : (pre ++ k :: suf).Perm (pre ++ (suf ++ [k])) := List.Perm.append_left _ (List.perm_append_comm (l₁ := [k]))
  simpa using this
theorem Ins.at {lt : Nat → Nat → Prop} {old : List Nat} {k : Nat} {ks : List Nat} {j : Nat} (h : Ins lt old k ks j) : ks[j]? = some k := by
  obtain ⟨pre, suf, rfl, _, rfl, _⟩ := h.shape
  simp
theorem Ins.swap {lt : Nat → Nat → Prop} {old : List Nat} {k c : Nat} {ks : List Nat} {j : Nat} (h : Ins lt old k ks (j + 1)) (hc : ks[j]? = some c) (hlt : lt k c) : Ins lt old k ((ks.set (j + 1) c).set j k) j := by
  obtain ⟨pre, suf, rfl, rfl, hl, hs⟩ := h.shape
  rcases snoc_cases pre with rfl | ⟨p, x, rfl⟩
  · simp at hl
  · have hpl : p.length = j := by simp at hl; omega
    subst hpl
    have hx : x = c := by simpa using hc
    subst hx
    refine ⟨⟨p, x :: suf, ?_, by simp, rfl, ?_⟩⟩
    · rw [List.append_assoc]
      simp
    · intro y hy
      simp at hy
      rcases hy with rfl | hy
      · exact hlt
      · exact hs y hy
theorem Ins.done {L : List NodeD} {old : List Nat} {k : Nat} {ks : List Nat} {j : Nat} (h : Ins (ltN L) old k ks j) (hp : old.Pairwise (ltN L)) (hne : ∀ c ∈ old, nmL L c ≠ nmL L k) (hstop : j = 0 ∨ ∃ c, ks[j - 1]? = some c ∧ ¬ ltN L k c) : ks.Pairwise (ltN L) := by
  obtain ⟨pre, suf, rfl, rfl, hl, hs⟩ := h.shape
  rw [List.pairwise_append] at hp
  obtain ⟨h1, h2, h3⟩ := hp
  have hpre : ∀ c ∈ pre, ltN L c k := by
    rcases snoc_cases pre with rfl | ⟨p, x, rfl⟩
    · intro c hc; cases hc
    · rcases hstop with h0 | ⟨c, hc, hn⟩
      · rw [h0] at hl; simp at hl
      · have hx : x = c := by
          rw [← hl] at hc
          simpa using hc
        subst hx
        have hxk : ltN L x k := by
          have e : Op.bytesLess (nmL L k) (nmL L x) = false := by simpa [ltN] using hn
          exact less_total _ _ (fun e => hne x (by simp) e.symm) e
        intro c hc
        simp at hc
        rcases hc with hc | rfl
        · rw [List.pairwise_append] at h1
          exact less_trans _ _ _ (h1.2.2 c hc x (by simp)) hxk
        · exact hxk
  rw [List.pairwise_append]
  refine ⟨h1, List.pairwise_cons.2 ⟨hs, h2⟩, ?_⟩
  intro a ha b hb
  simp at hb
  rcases hb with rfl | hb
  · exact hpre a ha
  · exact h3 a ha b hb
end Go.Proofs.YtfemboojdablhaaGreatDoor.Tre
