import Derived.Test.YtfemboojdablhaaGreatDoorMi09
import Derived.Shelf.GgClosure.Gives
namespace Go.Proofs.YtfemboojdablhaaGreatDoor
abbrev BSet := Nat → Bool
def isLow (c : UInt8) : Bool := decide (97 ≤ c.toNat) && decide (c.toNat ≤ 122)
def className (l : List UInt8) : Option (List UInt8) :=
  if l.take 2 = [91, 58] ∧ (l.drop 2).takeWhile isLow ≠ [] ∧ ((l.drop 2).drop ((l.drop 2).takeWhile isLow).length).take 2 = [58, 93] then some ((l.drop 2).takeWhile isLow) else none
def spanD (a b : Nat) : BSet := fun j => decide (a ≤ j) && decide (j ≤ b)
def orD (f g : BSet) : BSet := fun j => f j || g j
def upperD := spanD 65 90
def lowerD := spanD 97 122
def digitD := spanD 48 57
def alphaD := orD upperD lowerD
def alnumD := orD alphaD digitD
def graphD := spanD 33 126
def nmAlpha : List UInt8 := [97, 108, 112, 104, 97]
def nmDigit : List UInt8 := [100, 105, 103, 105, 116]
def nmAlnum : List UInt8 := [97, 108, 110, 117, 109]
def nmUpper : List UInt8 := [117, 112, 112, 101, 114]
def nmLower : List UInt8 := [108, 111, 119, 101, 114]
def nmXdigit : List UInt8 := [120, 100, 105, 103, 105, 116]
def nmSpace : List UInt8 := [115, 112, 97, 99, 101]
def nmBlank : List UInt8 := [98, 108, 97, 110, 107]
def nmPunct : List UInt8 := [112, 117, 110, 99, 116]
def nmPrint : List UInt8 := [112, 114, 105, 110, 116]
def nmGraph : List UInt8 := [103, 114, 97, 112, 104]
def nmCntrl : List UInt8 := [99, 110, 116, 114, 108]
def classTab : List (List UInt8 × BSet) :=
  [(nmAlpha, alphaD), (nmDigit, digitD), (nmAlnum, alnumD), (nmUpper, upperD), (nmLower, lowerD), (nmXdigit, orD (orD digitD (spanD 65 70)) (spanD 97 102)),
   (nmSpace, orD (spanD 9 13) (spanD 32 32)), (nmBlank, orD (spanD 9 9) (spanD 32 32)), (nmPunct, fun j => graphD j && !alnumD j), (nmPrint, spanD 32 126), (nmGraph, graphD), (nmCntrl, orD (spanD 0 31) (spanD 127 127))]
def classD (n : List UInt8) : Option BSet := (classTab.find? (fun x => x.1 == n)).map (·.2)
def itemD (esc : Bool) : List UInt8 → UInt8 × List UInt8
  | [] => (0, [])
  | [c] => (c, [])
  | c :: d :: r => if esc = true ∧ c = 92 then (d, r) else (c, d :: r)
theorem itemD_len (esc : Bool) (l : List UInt8) (h : l ≠ []) : (itemD esc l).2.length < l.length := by
  match l, h with
  | [c], _ => simp [itemD]
  | c :: d :: r, _ =>
    rw [itemD]
    split <;> simp <;> omega
def rangeD : List UInt8 → Bool
  | c :: d :: _ => c == 45 && d != 93
  | _ => false
structure PartD where
  set : BSet
  known : Bool
  rest : List UInt8
def partD (esc : Bool) (l : List UInt8) (S : BSet) (k : Bool) : PartD :=
  match className l with
  | some n =>
    match classD n with
    | some f => ⟨orD S f, k, l.drop (n.length + 4)⟩
    | none => ⟨S, false, l.drop (n.length + 4)⟩
  | none =>
    if rangeD (itemD esc l).2 = true then
      ⟨orD S (spanD (itemD esc l).1.toNat (itemD esc (itemD esc l).2.tail).1.toNat), k, (itemD esc (itemD esc l).2.tail).2⟩
    else ⟨orD S (spanD (itemD esc l).1.toNat (itemD esc l).1.toNat), k, (itemD esc l).2⟩
theorem className_len {l n : List UInt8} (h : className l = some n) : n.length + 4 ≤ l.length := by
  unfold className at h
  split at h
  · rename_i hc
    obtain ⟨h1, h2, h3⟩ := hc
    have h4 := Option.some.inj h
    rw [← h4]
    have e3 := congrArg List.length h3
    rw [List.length_take, List.length_drop, List.length_drop] at e3
    simp at e3
    omega
  · cases h
theorem partD_len (esc : Bool) (l : List UInt8) (S : BSet) (k : Bool) (h : l ≠ []) : (partD esc l S k).rest.length < l.length := by
  unfold partD
  have hl : 0 < l.length := List.length_pos_iff.2 h
  split
  · rename_i n hn
    have := className_len hn
    split <;> simp <;> omega
  · have h1 := itemD_len esc l h
    split
    · rename_i hr
      have h2 : (itemD esc l).2.tail ≠ [] := by
        intro e
        match hq : (itemD esc l).2 with
        | [] => rw [hq] at hr; simp [rangeD] at hr
        | [c] => rw [hq] at hr; simp [rangeD] at hr
        | c :: d :: r => rw [hq] at e; cases e
      have h3 := itemD_len esc _ h2
      rw [List.length_tail] at h3
      show (itemD esc (itemD esc l).2.tail).2.length < l.length
      omega
    · exact h1
def brD (esc : Bool) : Nat → Bool → List UInt8 → BSet → Bool → Option PartD
  | 0, _, _, _, _ => none
  | n + 1, first, l, S, k =>
    match l with
    | [] => none
    | c :: r => if c = 93 ∧ first = false then some ⟨S, k, r⟩ else brD esc n false (partD esc (c :: r) S k).rest (partD esc (c :: r) S k).set (partD esc (c :: r) S k).known
theorem brD_fuel (esc : Bool) : ∀ (n m : Nat) (first : Bool) (l : List UInt8) (S : BSet) (k : Bool), l.length < n → l.length < m → brD esc n first l S k = brD esc m first l S k := by
  intro n
  induction n with
  | zero => intro m first l S k h; omega
  | succ n ih =>
    intro m first l S k h h2
    match m, h2 with
    | m + 1, h2 =>
      match l with
      | [] => rfl
      | c :: r =>
        have hp := partD_len esc (c :: r) S k (by simp)
        rw [brD, brD]
        split
        · rfl
        · exact ih m _ _ _ _ (by omega) (by omega)
def turnedD (no : List UInt8) (r : List UInt8) : Bool := match r with
  | [] => false
  | c :: _ => no.contains c
def bracketD (esc : Bool) (no : List UInt8) (l : List UInt8) : Option PartD :=
  match l with
  | [] => none
  | c :: r =>
    if c = 91 then
      if turnedD no r = true then (brD esc (r.tail.length + 1) true r.tail (fun _ => false) true).map (fun p => ⟨fun j => !p.set j, p.known, p.rest⟩)
      else brD esc (r.length + 1) true r (fun _ => false) true
    else none
theorem brD_rest (esc : Bool) : ∀ (n : Nat) (first : Bool) (l : List UInt8) (S : BSet) (k : Bool) (p : PartD), brD esc n first l S k = some p → p.rest.length < l.length := by
  intro n
  induction n with
  | zero => intro first l S k p h; rw [brD] at h; cases h
  | succ n ih =>
    intro first l S k p h
    match l, h with
    | c :: r, h =>
      rw [brD] at h
      split at h
      · cases h; simp
      · have := ih _ _ _ _ _ h
        have hp := partD_len esc (c :: r) S k (by simp)
        omega
theorem bracketD_rest {esc : Bool} {no l : List UInt8} {p : PartD} (h : bracketD esc no l = some p) : p.rest.length < l.length := by
  unfold bracketD at h
  match l, h with
  | c :: r, h =>
    simp only at h
    split at h
    · split at h
      · cases hb : brD esc (r.tail.length + 1) true r.tail (fun _ => false) true with
        | none => rw [hb] at h; cases h
        | some q =>
          rw [hb] at h
          cases h
          have := brD_rest _ _ _ _ _ _ _ hb
          rw [List.length_tail] at this
          simp
          omega
      · have := brD_rest _ _ _ _ _ _ _ h
        simp
        omega
    · cases h
inductive PcD where
  | lit (c : UInt8)
  | wild (many : Bool) (S : BSet)
inductive RdD where
  | ok (p : PcD) (rest : List UInt8)
  | text
  | range
def allD : BSet := fun _ => true
def noD : List UInt8 := [33, 94]
def pieceD (l : List UInt8) : RdD :=
  match l with
  | [] => .text
  | c :: r =>
    if c = 42 then .ok (.wild true allD) r
    else if c = 63 then .ok (.wild false allD) r
    else if c = 92 then (match r with | [] => .text | d :: r2 => .ok (.lit d) r2)
    else if c = 91 then
      (match bracketD true noD (c :: r) with
      | some p => if p.known = true then .ok (.wild false p.set) p.rest else .range
      | none => .ok (.lit c) r)
    else .ok (.lit c) r
theorem pieceD_rest {l rest : List UInt8} {p : PcD} (h : pieceD l = .ok p rest) : rest.length < l.length := by
  unfold pieceD at h
  match l, h with
  | c :: r, h =>
    simp only at h
    split at h
    · cases h; simp
    · split at h
      · cases h; simp
      · split at h
        · match r, h with
          | d :: r2, h => cases h; simp; omega
        · split at h
          · split at h
            · rename_i q hq
              split at h
              · cases h
                exact bracketD_rest hq
              · cases h
            · cases h; simp
          · cases h; simp
inductive PatD where
  | ok (ps : List PcD)
  | text
  | range (left : Nat)
def patD : Nat → List UInt8 → PatD
  | 0, _ => .ok []
  | n + 1, l =>
    match l with
    | [] => .ok []
    | c :: r =>
      match pieceD (c :: r) with
      | .ok p rest => (match patD n rest with | .ok ps => .ok (p :: ps) | .text => .text | .range k => .range k)
      | .text => .text
      | .range => .range (c :: r).length
def aheadD : PatD → List PcD → PatD
  | .ok ps, qs => .ok (qs ++ ps)
  | .text, _ => .text
  | .range k, _ => .range k
theorem aheadD_nil (x : PatD) : aheadD x [] = x := by cases x <;> rfl
theorem aheadD_step {n : Nat} {l rest : List UInt8} {p : PcD} (qs : List PcD) (h : pieceD l = .ok p rest) : aheadD (patD (n + 1) l) qs = aheadD (patD n rest) (qs ++ [p]) := by
  match l, h with
  | [], h => cases h
  | c :: r, h =>
    rw [patD]
    simp only [h]
    cases patD n rest <;> simp [aheadD]
theorem patD_text {n : Nat} {l : List UInt8} (hl : l ≠ []) (h : pieceD l = .text) : patD (n + 1) l = .text := by
  match l, hl with
  | c :: r, _ => rw [patD]; simp only [h]
theorem patD_range {n : Nat} {l : List UInt8} (hl : l ≠ []) (h : pieceD l = .range) : patD (n + 1) l = .range l.length := by
  match l, hl with
  | c :: r, _ => rw [patD]; simp only [h]
def textD (S : BSet) : List UInt8 := ((List.range 256).filter S).map UInt8.ofNat
def wayD (way : Bool) (S : BSet) : BSet := fun j => S j && !(way && j == 47)
def exprD (way : Bool) : PcD → ExprD
  | .lit c => .mk 2 [c] []
  | .wild many S => if many = true then .mk 5 [] [.mk 2 (textD (wayD way S)) []] else .mk 2 (textD (wayD way S)) []
def meanD (way : Bool) (ps : List PcD) : ExprD := .mk 3 [] (ps.map (exprD way))
def writtenD : PcD → UInt8
  | .lit c => c
  | .wild _ _ => 0
end Go.Proofs.YtfemboojdablhaaGreatDoor
namespace Go.Proofs.YtfemboojdablhaaGreatDoor
open Go.RowKit Go.Maps
def ptr (b : Nat) : Value := .pointer (some ⟨b, 0, none⟩)
def fnV (n : Nat) (lb : Array Value) : Value := .func (.func n) #[] lb
def anyD (fs : List BSet) : BSet := fun j => fs.any (fun f => f j)
inductive FnIs (B : Nat) (w : World) : Value → BSet → Prop
  | span (b1 b2 lo hi : Nat) (f : BSet) (h1 : w.cell? ⟨b1, 0, none⟩ = some (.int .u8 (lo : Int))) (h2 : w.cell? ⟨b2, 0, none⟩ = some (.int .u8 (hi : Int))) (g1 : B ≤ b1) (g2 : B ≤ b2) (hf : ∀ j, f j = spanD lo hi j) : FnIs B w (fnV 310 #[ptr b1, ptr b2]) f
  | either (b g c : Nat) (vs : List Value) (fs : List BSet) (f : BSet) (h1 : w.cell? ⟨b, 0, none⟩ = some (.slice (some ⟨g, 0, none⟩) vs.length c)) (g1 : B ≤ b) (g2 : B ≤ g) (hl : fs.length = vs.length) (hvb : vs.length ≤ 100) (hc : ∀ (i : Nat) (v : Value), vs[i]? = some v → w.cell? ⟨g, i, none⟩ = some v) (hv : ∀ (i : Nat) (v : Value) (f' : BSet), vs[i]? = some v → fs[i]? = some f' → FnIs B w v f') (hf : ∀ j, f j = anyD fs j) : FnIs B w (fnV 311 #[ptr b]) f
  | but (b1 b2 : Nat) (v1 v2 : Value) (f1 f2 f : BSet) (h1 : w.cell? ⟨b1, 0, none⟩ = some v1) (h2 : w.cell? ⟨b2, 0, none⟩ = some v2) (g1 : B ≤ b1) (g2 : B ≤ b2) (k1 : FnIs B w v1 f1) (k2 : FnIs B w v2 f2) (hf : ∀ j, f j = (f1 j && !f2 j)) : FnIs B w (fnV 302 #[ptr b1, ptr b2]) f
def KC (B : Nat) (w w' : World) : Prop := ∀ (a : Addr) (v : Value), B ≤ a.block → w.cell? a = some v → w'.cell? a = some v
theorem KC.refl (B : Nat) (w : World) : KC B w w := fun _ _ _ h => h
theorem KC.trans {B : Nat} {a b c : World} (h : KC B a b) (h2 : KC B b c) : KC B a c := fun x v hx e => h2 x v hx (h x v hx e)
theorem KC.drew {B : Nat} {a b : World} (h : KC B a b) (q : Nat) : KC B a (b.drewN q) := fun x v hx e => h x v hx e
theorem FnIs.keep {B : Nat} {w w' : World} (hk : KC B w w') {v : Value} {f : BSet} (h : FnIs B w v f) : FnIs B w' v f := by
  induction h with
  | span b1 b2 lo hi f h1 h2 g1 g2 hf => exact .span b1 b2 lo hi f (hk ⟨b1, 0, none⟩ _ g1 h1) (hk ⟨b2, 0, none⟩ _ g2 h2) g1 g2 hf
  | either b g c vs fs f h1 g1 g2 hl hvb hc _ hf ih => exact .either b g c vs fs f (hk ⟨b, 0, none⟩ _ g1 h1) g1 g2 hl hvb (fun i v hv => hk ⟨g, i, none⟩ v g2 (hc i v hv)) ih hf
  | but b1 b2 v1 v2 f1 f2 f h1 h2 g1 g2 _ _ hf ih1 ih2 => exact .but b1 b2 v1 v2 f1 f2 f (hk ⟨b1, 0, none⟩ _ g1 h1) (hk ⟨b2, 0, none⟩ _ g2 h2) g1 g2 ih1 ih2 hf
theorem FnIs.congr {B : Nat} {w : World} {v : Value} {f f' : BSet} (h : FnIs B w v f) (he : ∀ j, f' j = f j) : FnIs B w v f' := by
  cases h with
  | span b1 b2 lo hi f h1 h2 g1 g2 hf => exact .span b1 b2 lo hi f' h1 h2 g1 g2 (fun j => (he j).trans (hf j))
  | either b g c vs fs f h1 g1 g2 hl hvb hc hv hf => exact .either b g c vs fs f' h1 g1 g2 hl hvb hc hv (fun j => (he j).trans (hf j))
  | but b1 b2 v1 v2 f1 f2 f h1 h2 g1 g2 k1 k2 hf => exact .but b1 b2 v1 v2 f1 f2 f' h1 h2 g1 g2 k1 k2 (fun j => (he j).trans (hf j))
theorem FnIs.mono {B B' : Nat} (hB : B' ≤ B) {w : World} {v : Value} {f : BSet} (h : FnIs B w v f) : FnIs B' w v f := by
  induction h with
  | span b1 b2 lo hi f h1 h2 g1 g2 hf => exact .span b1 b2 lo hi f h1 h2 (by omega) (by omega) hf
  | either b g c vs fs f h1 g1 g2 hl hvb hc _ hf ih => exact .either b g c vs fs f h1 (by omega) (by omega) hl hvb hc ih hf
  | but b1 b2 v1 v2 f1 f2 f h1 h2 g1 g2 _ _ hf ih1 ih2 => exact .but b1 b2 v1 v2 f1 f2 f h1 h2 (by omega) (by omega) ih1 ih2 hf
def FnDoes (w : World) (v : Value) (f : BSet) : Prop :=
  ∃ n lb, v = fnV n lb ∧ (∀ args w, (callFunc n args).run Tryz.prog w = .ok (.enter n args) w) ∧ ∀ c : Nat, c < 256 → Calls Tryz.prog n (#[.int .u8 (c : Int)] ++ lb) w fun e w' => e = .returned (.bool (f c)) ∧ ∃ q, w' = w.drewN q
set_option maxRecDepth 100000 in
theorem span1_any (b1 b2 lo hi : Nat) (w : World) (h1 : w.cell? ⟨b1, 0, none⟩ = some (.int .u8 (lo : Int))) (h2 : w.cell? ⟨b2, 0, none⟩ = some (.int .u8 (hi : Int))) (c : Nat) :
    Calls Tryz.prog 310 (#[.int .u8 (c : Int)] ++ #[ptr b1, ptr b2]) w fun e w' => e = .returned (.bool (spanD lo hi c)) ∧ ∃ q, w' = w.drewN q := by
  unfold ptr
  by_cases hlo : lo ≤ c <;> by_cases hhi : c ≤ hi
  all_goals
    have z1 : (lo : Int) ≤ (c : Int) ↔ lo ≤ c := by omega
    have z2 : (c : Int) ≤ (hi : Int) ↔ c ≤ hi := by omega
    go_enter Tryz.func310, Tryz.ntmps310
    go_wp2
    all_goals first | (exfalso; omega) | (go_ret; exact ⟨by simp [spanD, hlo, hhi], 0, rfl⟩)
set_option maxRecDepth 100000 in
set_option maxHeartbeats 1000000 in
theorem but1_any (b1 b2 : Nat) (v1 v2 : Value) (f1 f2 : BSet) (w : World) (h1 : w.cell? ⟨b1, 0, none⟩ = some v1) (h2 : w.cell? ⟨b2, 0, none⟩ = some v2) (k1 : FnDoes w v1 f1) (k2 : ∀ q, FnDoes (w.drewN q) v2 f2) (c : Nat) (hc : c < 256) :
    Calls Tryz.prog 302 (#[.int .u8 (c : Int)] ++ #[ptr b1, ptr b2]) w fun e w' => e = .returned (.bool (f1 c && !f2 c)) ∧ ∃ q, w' = w.drewN q := by
  unfold ptr
  obtain ⟨n1, lb1, rfl, eg1, c1⟩ := k1
  have C1 := c1 c hc
  obtain ⟨n2, lb2, e2, eg2, _⟩ := k2 0
  subst e2
  have C2 : ∀ q, Calls Tryz.prog n2 (#[.int .u8 (c : Int)] ++ lb2) (w.drewN q) fun e w' => e = .returned (.bool (f2 c)) ∧ ∃ q', w' = w.drewN q' := by
    intro q
    obtain ⟨n, lb, e, _, c2⟩ := k2 q
    cases e
    refine (c2 c hc).mono ?_
    rintro e w' ⟨rfl, q', rfl⟩
    exact ⟨rfl, q + q', by rw [World.drewN_drewN]⟩
  unfold fnV at h1 h2
  have HC2 := hide C2
  clear c1 C2 k2
  cases hf1 : f1 c
  · rw [hf1] at C1
    go_enter Tryz.func302, Tryz.ntmps302
    go_wp2_with (go_at_fn n1; refine C1.mono ?_; rintro e w' ⟨rfl, q, rfl⟩)
    go_ret
    exact ⟨by simp, _, rfl⟩
  · rw [hf1] at C1
    go_enter Tryz.func302, Tryz.ntmps302
    go_wp2_with first
      | (go_at_fn n1; refine C1.mono ?_; rintro e w' ⟨rfl, q, rfl⟩)
      | (go_at_fn n2; refine (HC2.out _).mono ?_; rintro e w' ⟨rfl, q, rfl⟩)
    go_ret
    exact ⟨by simp, _, rfl⟩
theorem any_take {fs : List BSet} {i c : Nat} (hi : i < fs.length) : anyD (fs.take (i + 1)) c = (anyD (fs.take i) c || fs[i] c) := by
  unfold anyD
  rw [List.take_add_one, List.getElem?_eq_getElem hi, List.any_append]
  simp
set_option maxRecDepth 100000 in
set_option maxHeartbeats 1000000 in
theorem either1_any (b g cp : Nat) (vs : List Value) (fs : List BSet) (w : World) (h1 : w.cell? ⟨b, 0, none⟩ = some (.slice (some ⟨g, 0, none⟩) vs.length cp)) (hl : fs.length = vs.length) (hvb : vs.length ≤ 100) (hc : ∀ (i : Nat) (v : Value), vs[i]? = some v → w.cell? ⟨g, i, none⟩ = some v) (hv : ∀ (i : Nat) (v : Value) (f' : BSet), vs[i]? = some v → fs[i]? = some f' → ∀ q, FnDoes (w.drewN q) v f') (c : Nat) (hcb : c < 256) :
    Calls Tryz.prog 311 (#[.int .u8 (c : Int)] ++ #[ptr b]) w fun e w' => e = .returned (.bool (anyD fs c)) ∧ ∃ q, w' = w.drewN q := by
  unfold ptr
  go_enter Tryz.func311, Tryz.ntmps311
  go_wp2
  go_loopw [8] (fun iv wr => ∃ i : Nat, iv = .int .i64 (i : Int) ∧ i ≤ vs.length ∧ anyD (fs.take i) c = false ∧ ∃ q, wr = w.drewN q) (fun iv _ => vs.length - (intOf iv).toNat)
  case atStart => exact ⟨0, rfl, Nat.zero_le _, by simp [anyD], 0, rfl⟩
  case round =>
    obtain ⟨i, rfl, hi, hany, q, rfl⟩ := hrel
    by_cases hlt : i < vs.length
    · have hiI : (i : Int) < (vs.length : Int) := by omega
      have hiv := List.getElem?_eq_getElem hlt
      have hif := List.getElem?_eq_getElem (l := fs) (i := i) (by omega)
      obtain ⟨n, lb, ev, eg, cc⟩ := hv i _ _ hiv hif q
      have hcell := hc i _ hiv
      rw [ev] at hcell
      unfold fnV at hcell
      have C := cc c hcb
      have hnext := any_take (fs := fs) (i := i) (c := c) (by omega)
      rw [hany, Bool.false_or] at hnext
      have HN := hide hnext
      clear hc hv hany hiv hif ev cc hnext
      cases hfc : (fs[i]'(by omega)) c
      · rw [hfc] at C
        go_wp2_with (go_at_fn n; refine C.mono ?_; rintro e w' ⟨rfl, q2, rfl⟩)
        go_roundw
        case rel => exact ⟨i + 1, by simp, by omega, HN.out.trans hfc, q + q2, by simp⟩
        case measure => simp [intOf]; omega
      · rw [hfc] at C
        go_wp2_with (go_at_fn n; refine C.mono ?_; rintro e w' ⟨rfl, q2, rfl⟩)
        go_ret
        refine ⟨?_, q + q2, by simp⟩
        have : anyD fs c = true := by
          unfold anyD
          rw [List.any_eq_true]
          exact ⟨fs[i]'(by omega), List.getElem_mem _, hfc⟩
        rw [this]
        rfl
    · have hiI : ¬ ((i : Int) < (vs.length : Int)) := by omega
      go_wp2
      go_ret
      refine ⟨?_, q, rfl⟩
      rw [List.take_of_length_le (by omega)] at hany
      rw [hany]
      rfl
theorem FnIs.does {B : Nat} {w : World} {v : Value} {f : BSet} (h : FnIs B w v f) : ∀ W, KC B w W → FnDoes W v f := by
  induction h with
  | span b1 b2 lo hi f h1 h2 g1 g2 hf =>
    intro W hk
    refine ⟨310, _, rfl, enters_of Tryz.func310 (by kernel_rfl) rfl, fun c _ => ?_⟩
    rw [hf c]
    exact span1_any b1 b2 lo hi W (hk ⟨b1, 0, none⟩ _ g1 h1) (hk ⟨b2, 0, none⟩ _ g2 h2) c
  | either b g c vs fs f h1 g1 g2 hl hvb hc _ hf ih =>
    intro W hk
    refine ⟨311, _, rfl, enters_of Tryz.func311 (by kernel_rfl) rfl, fun j hj => ?_⟩
    rw [hf j]
    exact either1_any b g c vs fs W (hk ⟨b, 0, none⟩ _ g1 h1) hl hvb (fun i v hv => hk ⟨g, i, none⟩ v g2 (hc i v hv)) (fun i v f' hv hf q => ih i v f' hv hf _ (hk.drew q)) j hj
  | but b1 b2 v1 v2 f1 f2 f h1 h2 g1 g2 _ _ hf ih1 ih2 =>
    intro W hk
    refine ⟨302, _, rfl, enters_of Tryz.func302 (by kernel_rfl) rfl, fun j hj => ?_⟩
    rw [hf j]
    exact but1_any b1 b2 v1 v2 f1 f2 W (hk ⟨b1, 0, none⟩ _ g1 h1) (hk ⟨b2, 0, none⟩ _ g2 h2) (ih1 W hk) (fun q => ih2 _ (hk.drew q)) j hj
theorem gcell_lt {W : World} {p : Addr} {v : Value} (h : W.cell? p = some v) : p.block < W.heap.size := by
  by_cases hlt : p.block < W.heap.size
  · exact hlt
  · unfold World.cell? at h
    rw [Array.getElem?_eq_none (by omega)] at h
    cases h
theorem kc_alloc (B : Nat) (w : World) (o : Obj) : KC B w (w.alloc o) := fun a v _ h => by
  have hlt : a.block < w.heap.size := gcell_lt h
  have hb := (((Below.refl w.heap.size w).alloc (Nat.le_refl _) o).cell (p := a) hlt)
  exact hb.trans h
set_option maxRecDepth 100000 in
theorem span_any (lo hi : Nat) (w : World) :
    Calls Tryz.prog 300 #[.int .u8 (lo : Int), .int .u8 (hi : Int)] w fun e w' => ∃ v, e = .returned v ∧ FnIs w.heap.size w' v (spanD lo hi) ∧ Below w.heap.size w w' ∧ KC 0 w w' := by
  have hmf : ∀ (fn : Fn) (first cap : Array Value) (w : World), (Instr.makeFunc fn first cap).run Tryz.prog w = .ok (.func fn first cap) w := fun _ _ _ _ => rfl
  go_enter Tryz.func300, Tryz.ntmps300
  go_wp2
  go_ret
  refine ⟨_, rfl, .span w.heap.size (w.heap.size + 1) lo hi _ (by simp) (by simp) (Nat.le_refl _) (by omega) (fun _ => rfl), ((Below.refl _ _).alloc (Nat.le_refl _) _).alloc (by simp) _, (kc_alloc 0 _ _).trans (kc_alloc 0 _ _)⟩
set_option maxRecDepth 100000 in
theorem either_any (B g c : Nat) (vs : List Value) (fs : List BSet) (w : World) (hg : B ≤ g) (hB : B ≤ w.heap.size) (hl : fs.length = vs.length) (hvb : vs.length ≤ 100) (hc : ∀ (i : Nat) (v : Value), vs[i]? = some v → w.cell? ⟨g, i, none⟩ = some v) (hv : ∀ (i : Nat) (v : Value) (f' : BSet), vs[i]? = some v → fs[i]? = some f' → FnIs B w v f') :
    Calls Tryz.prog 301 #[.slice (some ⟨g, 0, none⟩) vs.length c] w fun e w' => ∃ v, e = .returned v ∧ FnIs B w' v (anyD fs) ∧ Below w.heap.size w w' ∧ KC 0 w w' := by
  have hmf : ∀ (fn : Fn) (first cap : Array Value) (w : World), (Instr.makeFunc fn first cap).run Tryz.prog w = .ok (.func fn first cap) w := fun _ _ _ _ => rfl
  have HC := hide hc
  have HV := hide hv
  clear hc hv
  go_enter Tryz.func301, Tryz.ntmps301
  go_wp2
  go_ret
  have hk := kc_alloc 0 w (.cells #[.slice (some ⟨g, 0, none⟩) vs.length c] 394)
  refine ⟨_, rfl, .either w.heap.size g c vs fs _ (by simp) hB hg hl hvb (fun i v hv => hk _ _ (Nat.zero_le _) (HC.out i v hv)) (fun i v f' a b => (HV.out i v f' a b).keep (fun a v _ h => hk a v (Nat.zero_le _) h)) (fun _ => rfl), (Below.refl _ _).alloc (Nat.le_refl _) _, hk⟩
end Go.Proofs.YtfemboojdablhaaGreatDoor
