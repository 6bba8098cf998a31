/- Merged: IbA0, IbF, IbB, IbG, IbM, IbH. -/
import Derived.Test.YtjbdoeoimodhkaaGreatDoorJba
import Derived.Test.YtjbdoeoimodhkaaGreatDoorTGPlain
import Derived.RangeFuncNested
import Derived.RangeFuncBox
import Derived.Shelf.RegionOpen
import Derived.RangeFuncLeaves
import Derived.Test.YtjbdoeoimodhkaaGreatDoorAGrow
import Derived.TacticsInMore
import Derived.LoopNIn
import Derived.LoopIn
import Derived.WalkKit
import Derived.OwnWalkIn
import Derived.Shelf.Abstract
import Derived.Test.YtjbdoeoimodhkaaGreatDoorJpa
/- The directories that a node is in, plain. -/
namespace Go.Proofs.YtjbdoeoimodhkaaGreatDoor
open Tre (NodeD dirD nameIs kidOf)

/-- The directories that a node is in, each with the path from there on. -/
def dirsD (L : List NodeD) : Nat → Nat → ByteArray → List (Nat × ByteArray)
  | 0, _, _ => []
  | f + 1, k, way => match L[k]? with
    | some n => if 0 ≤ n.up ∧ n.up < (k : Int) then (n.up.toNat, way) :: (match L[n.up.toNat]? with
        | some m => dirsD L f n.up.toNat (joinS m.name way)
        | none => []) else []
    | none => []
def nameD (L : List NodeD) (k : Nat) : ByteArray := match L[k]? with
  | some n => n.name
  | none => ⟨#[]⟩
def dirsK (L : List NodeD) (k : Nat) : List (Nat × ByteArray) := dirsD L (k + 1) k (nameD L k)
def isDirK (L : List NodeD) (k : Nat) : Bool := match L[k]? with
  | some n => dirD n
  | none => false
/-- What holds of the nodes that are read. -/
structure TOK (L : List NodeD) : Prop where
  len : L.length ≤ 201
  root : ∀ n, L[0]? = some n → n.up = -1
  up : ∀ (i : Nat) (n : NodeD), L[i]? = some n → 0 < i → ∃ a : Nat, n.up = (a : Int) ∧ a < i ∧ ∃ m, L[a]? = some m ∧ dirD m = true
  name : ∀ (i : Nat) (n : NodeD), L[i]? = some n → n.name.size ≤ 60
  text : ∀ (i : Nat) (n : NodeD), L[i]? = some n → n.text.size ≤ 20000
  kids : ∀ (i : Nat) (n : NodeD), L[i]? = some n → n.kids.length ≤ 1000 ∧ ∀ c ∈ n.kids, c < L.length
theorem name_size {s : ByteArray} (h : Tre.nameOk s = true) : s.size ≤ 60 := by
  unfold Tre.nameOk at h
  simp only [Bool.and_eq_true, decide_eq_true_eq] at h
  exact h.1.1.1.2
theorem last_ok {way : ByteArray} (h : (Tre.cutS 47 way).all Tre.nameOk = true) : Tre.nameOk (Tre.lastS way) = true := by
  unfold Tre.lastS Tre.lastL
  have hne := Tre.split_ne 47 way.data.toList
  rw [List.getLast?_eq_some_getLast hne]
  exact List.all_eq_true.1 h _ (List.mem_map_of_mem (List.getLast_mem hne))
theorem tok_of {R L : List NodeD} {K : List ByteArray} (h : Tre.KInv R K) (hs : Tre.Srt R L) : TOK L := by
  refine ⟨by rw [hs.len]; exact h.lim, ?_, ?_, ?_, ?_, ?_⟩
  · intro n hn
    obtain ⟨m, hm, e, _, _⟩ := hs.back hn
    rw [e]; exact (h.root m hm).1
  · intro i n hn hi
    obtain ⟨m, hm, e, _, _⟩ := hs.back hn
    obtain ⟨way, a, _, _, _, h4, h5, _⟩ := h.node i m hm hi
    have hal : a < R.length := Nat.lt_trans h5 (List.getElem?_eq_some_iff.1 hm).1
    obtain ⟨x, hx⟩ : ∃ x, R[a]? = some x := ⟨_, List.getElem?_eq_getElem hal⟩
    obtain ⟨ks, hk1, hk2, _⟩ := hs.node a x hx
    refine ⟨a, by rw [e]; exact h4, h5, _, hk1, ?_⟩
    have hin : i ∈ x.kids := (h.kids a x hx i).2 ⟨hi, m, hm, h4⟩
    exact h.dir a x hx (fun e2 => by rw [e2] at hin; cases hin)
  · intro i n hn
    obtain ⟨m, hm, e, _, _⟩ := hs.back hn
    have e1 : n.name = m.name := by rw [e]; rfl
    rw [e1]
    by_cases hi : 0 < i
    · obtain ⟨way, a, _, h2, h3, _⟩ := h.node i m hm hi
      rw [h3]
      exact name_size (last_ok h2)
    · obtain rfl : i = 0 := by omega
      rw [(h.root m hm).2.1]
      exact Nat.zero_le _
  · intro i n hn
    obtain ⟨m, hm, e, _, _⟩ := hs.back hn
    have e1 : n.text = m.text := by rw [e]; rfl
    rw [e1]; exact h.text i m hm
  · intro i n hn
    obtain ⟨m, hm, e, hp, _⟩ := hs.back hn
    refine ⟨?_, fun c hc => ?_⟩
    · rw [hp.length_eq]
      have h1 := h.klen i m hm
      have h2 := h.lim
      omega
    · rw [hs.len]
      exact h.kid_lt hm c (hp.mem_iff.1 hc)
theorem tok_nil : TOK [] := ⟨by simp, fun n h => by simp at h, fun i n h => by simp at h, fun i n h => by simp at h, fun i n h => by simp at h, fun i n h => by simp at h⟩
/-! ### Below what is passed over -/
theorem dirs_up {L : List NodeD} : ∀ (f g k : Nat) (w u : ByteArray), k < f → k < g → (dirsD L f k w).map (·.1) = (dirsD L g k u).map (·.1) := by
  intro f
  induction f with
  | zero => intro g k w u h1; omega
  | succ f ih =>
    intro g k w u h1 h2
    obtain ⟨g, rfl⟩ : ∃ g', g = g' + 1 := ⟨g - 1, by omega⟩
    unfold dirsD
    cases hn : L[k]? with
    | none => rfl
    | some n =>
      dsimp only
      by_cases hc : 0 ≤ n.up ∧ n.up < (k : Int)
      · rw [if_pos hc, if_pos hc]
        cases hm : L[n.up.toNat]? with
        | none => rfl
        | some m =>
          dsimp only
          rw [List.map_cons, List.map_cons, ih g n.up.toNat _ (joinS m.name u) (by omega) (by omega)]
      · rw [if_neg hc, if_neg hc]
theorem dirsK_up {L : List NodeD} {k : Nat} {n : NodeD} (hk : L[k]? = some n) {a : Nat} (ha : n.up = (a : Int)) (hlt : a < k) : (dirsK L k).map (·.1) = a :: (dirsK L a).map (·.1) := by
  have hal : a < L.length := Nat.lt_trans hlt (List.getElem?_eq_some_iff.1 hk).1
  obtain ⟨m, hm⟩ : ∃ m, L[a]? = some m := ⟨_, List.getElem?_eq_getElem hal⟩
  show ((dirsD L (k + 1) k (nameD L k)).map (·.1)) = _
  unfold dirsD
  rw [hk]
  dsimp only
  have e : n.up.toNat = a := by omega
  rw [if_pos (by omega), e, hm]
  dsimp only
  rw [List.map_cons, dirs_up k (a + 1) a _ (nameD L a) hlt (by omega)]
  rfl
theorem any_fst (l : List (Nat × ByteArray)) (p : Nat → Bool) : l.any (fun d => p d.1) = (l.map (·.1)).any p := by
  induction l with
  | nil => rfl
  | cons x l ih => simp [ih]
theorem dirs_root {L : List NodeD} (h : TOK L) : dirsK L 0 = [] := by
  unfold dirsK dirsD
  cases hn : L[0]? with
  | none => rfl
  | some n =>
    dsimp only
    rw [if_neg]
    have := h.root n hn
    omega
end Go.Proofs.YtjbdoeoimodhkaaGreatDoor
/- Ranges over functions: whose a block is, the caller's or the iterator's. -/
namespace Go.Proofs.YtjbdoeoimodhkaaGreatDoor
open Go.RowKit Go.Shelf

/-- What lay below N, and what is the caller's (C), lies as it lay. -/
structure KeepC (N : Nat) (C : Nat → Prop) (A A' : World) : Prop where
  os : A'.os = A.os
  tape : A'.tape = A.tape
  output : A'.output = A.output
  size : A.heap.size ≤ A'.heap.size
  block : ∀ k, k < A.heap.size → (k < N ∨ C k) → A'.heap[k]? = A.heap[k]?
/-- A round of the caller's: what is not the caller's lies as it lay; what becomes the caller's is new. -/
structure TurnC (C C' : Nat → Prop) (A A' : World) : Prop where
  os : A'.os = A.os
  tape : A'.tape = A.tape
  output : A'.output = A.output
  size : A.heap.size ≤ A'.heap.size
  block : ∀ k, k < A.heap.size → ¬ C k → A'.heap[k]? = A.heap[k]?
  new : ∀ k, C' k → C k ∨ A.heap.size ≤ k
theorem KeepC.refl (N : Nat) (C : Nat → Prop) (A : World) : KeepC N C A A := ⟨rfl, rfl, rfl, Nat.le_refl _, fun _ _ _ => rfl⟩
theorem KeepC.trans {N : Nat} {C : Nat → Prop} {A B D : World} (h : KeepC N C A B) (k : KeepC N C B D) : KeepC N C A D :=
  ⟨k.os.trans h.os, k.tape.trans h.tape, k.output.trans h.output, Nat.le_trans h.size k.size, fun i hi hc => (k.block i (Nat.lt_of_lt_of_le hi h.size) hc).trans (h.block i hi hc)⟩
theorem KeepC.mono {N N' : Nat} {C C' : Nat → Prop} {A B : World} (h : KeepC N C A B) (hN : N' ≤ N) (hC : ∀ k, C' k → C k) : KeepC N' C' A B :=
  ⟨h.os, h.tape, h.output, h.size, fun k hk hc => h.block k hk (hc.imp (fun q => Nat.lt_of_lt_of_le q hN) (hC k))⟩
theorem KeepC.of_below {N : Nat} {C : Nat → Prop} {A B : World} (h : Below A.heap.size A B) : KeepC N C A B := ⟨h.os, h.tape, h.output, h.size, fun k hk _ => h.block k hk⟩
theorem KeepC.below {N : Nat} {C : Nat → Prop} {A B : World} (h : KeepC N C A B) (hN : N ≤ A.heap.size) : Below N A B := ⟨h.os, h.tape, h.output, h.size, fun k hk => h.block k (by omega) (.inl hk)⟩
theorem KeepC.setCell {N : Nat} {C : Nat → Prop} {A : World} (b o : Nat) (v : Value) (hN : N ≤ b) (hC : ¬ C b) : KeepC N C A (A.setCell ⟨b, o, none⟩ v) :=
  ⟨rfl, rfl, rfl, (KeepsWalks.setCell A _ v).size, fun k _ hc => Below.heap_setCell _ _ _ k (fun e => by have e : k = b := e; subst e; rcases hc with h | h; omega; exact hC h)⟩
theorem KeepC.putObj {N : Nat} {C : Nat → Prop} {A : World} (b : Nat) (o : Obj) (hN : N ≤ b) (hC : ¬ C b) : KeepC N C A (A.putObj b o) :=
  ⟨rfl, rfl, rfl, by simp, fun k _ hc => World.putObj_heap_other (fun e => by subst e; rcases hc with h | h; omega; exact hC h)⟩
theorem TurnC.trans {C C' C'' : Nat → Prop} {A B D : World} (h : TurnC C C' A B) (k : TurnC C' C'' B D) : TurnC C C'' A D :=
  ⟨k.os.trans h.os, k.tape.trans h.tape, k.output.trans h.output, Nat.le_trans h.size k.size, fun i hi hc => (k.block i (Nat.lt_of_lt_of_le hi h.size) (fun q => by rcases h.new i q with q | q; exact hc q; omega)).trans (h.block i hi hc),
   fun i hi => by rcases k.new i hi with q | q; exact h.new i q; exact .inr (Nat.le_trans h.size q)⟩
theorem TurnC.of_below {C : Nat → Prop} {A B : World} (h : Below A.heap.size A B) : TurnC C C A B := ⟨h.os, h.tape, h.output, h.size, fun k hk _ => h.block k hk, fun _ h => .inl h⟩
theorem TurnC.refl (C : Nat → Prop) (A : World) : TurnC C C A A := .of_below (Below.refl _ _)
theorem TurnC.putObj {C : Nat → Prop} {A : World} (b : Nat) (o : Obj) (hC : C b) : TurnC C C A (A.putObj b o) := ⟨rfl, rfl, rfl, by simp, fun k _ hc => World.putObj_heap_other (fun e => by subst e; exact hc hC), fun _ h => .inl h⟩
theorem TurnC.setCell {C : Nat → Prop} {A : World} (b o : Nat) (v : Value) (hC : C b) : TurnC C C A (A.setCell ⟨b, o, none⟩ v) :=
  ⟨rfl, rfl, rfl, (KeepsWalks.setCell A _ v).size, fun k _ hc => Below.heap_setCell _ _ _ k (fun e => by have e : k = b := e; subst e; exact hc hC), fun _ h => .inl h⟩
/-- More may be the caller's. -/
theorem TurnC.wide {C C' E : Nat → Prop} {A B : World} (h : TurnC C C' A B) : TurnC (fun k => C k ∨ E k) (fun k => C' k ∨ E k) A B :=
  ⟨h.os, h.tape, h.output, h.size, fun k hk hc => h.block k hk (fun q => hc (.inl q)), fun k hk => by rcases hk with q | q; exact (h.new k q).imp .inl id; exact .inl (.inr q)⟩
/-- The caller's word lies in its own blocks and in what lay below N. -/
structure Abide (N : Nat) (J : (Nat → Prop) → World → Prop) : Prop where
  lt : ∀ C A, J C A → ∀ k, C k → k < A.heap.size
  keep : ∀ C A A', J C A → KeepC N C A A' → J C A'
/-- The iterator hands out xs, one by one, until it is told to leave. -/
def HandsC {α : Type} (P : Program) (gf : Nat) (lb : Array Value) (encs : α → Array Value) (xs : List α) (Rd : (Nat → Prop) → World → Prop) (Rx : α → World → Prop) : Prop :=
  ∀ (l : Nat) (J : List α → (Nat → Prop) → World → Prop) (Jx : (Nat → Prop) → World → Prop) (C : Nat → Prop) (W : World),
    (∀ pre, Abide W.heap.size (J pre)) → Abide W.heap.size Jx →
    (∀ pre x C A, pre ++ [x] <+: xs → J pre C A → YieldAt Fence.wide 0 P l (encs x) A fun e A' => ∃ C', TurnC C C' A A' ∧ ((e = .returned (.bool true) ∧ J (pre ++ [x]) C' A') ∨ (e = .returned (.bool false) ∧ Jx C' A'))) →
    (∀ pre x C A, pre ++ [x] <+: xs → J pre C A → Rx x A) →
    Rd C W → J [] C W → CallsIn Fence.wide 0 P gf (#[.func (.yield l) #[] #[]] ++ lb) W fun e W' => (∃ v, e = .returned v) ∧ ∃ C', J xs C' W' ∨ Jx C' W'
theorem callsIn_any {n m : Nat} {P : Program} {f : FuncId} {args : Array Value} {w : World} {R : Ending → World → Prop} (h : CallsIn Fence.wide n P f args w R) : CallsIn Fence.wide m P f args w R := ⟨h.1, fun cs _ => h.2 cs (room_wide _)⟩
theorem roundIn_any {n m : Nat} {P : Program} {l : Nat} {f : FuncId} {tmps : Array Value} {assign body : Code} {w : World} {R : Ending → World → Prop} (h : RoundIn Fence.wide n P l f tmps assign body w R) : RoundIn Fence.wide m P l f tmps assign body w R := ⟨h.1, fun c cs _ => h.2 c cs (room_wide _)⟩
/-- One record has turned; it is one yet. -/
structure Swap (l : Nat) (A A' : World) : Prop where
  os : A'.os = A.os
  tape : A'.tape = A.tape
  output : A'.output = A.output
  size : A'.heap.size = A.heap.size
  block : ∀ k, k ≠ l → A'.heap[k]? = A.heap[k]?
  record : ∃ r, A'.heap[l]? = some (.loop r)
theorem Swap.keep {l N : Nat} {C : Nat → Prop} {A A' : World} (h : Swap l A A') (hN : N ≤ l) (hC : ¬ C l) : KeepC N C A A' :=
  ⟨h.os, h.tape, h.output, Nat.le_of_eq h.size.symm, fun k _ hc => h.block k (fun e => by subst e; rcases hc with q | q; omega; exact hC q)⟩
theorem swap_putObj {l : Nat} {A : World} (r : Loop) (h : l < A.heap.size) : Swap l A (A.putObj l (.loop r)) := ⟨rfl, rfl, rfl, by simp, fun _ hk => World.putObj_heap_other hk, r, World.putObj_heap_same h⟩
/-- How a round's body is left. -/
def roundC {α : Type} (I : List α → (Nat → Prop) → World → Prop) (Ix : (Nat → Prop) → World → Prop) (C : Nat → Prop) (xs : List α) (W : World) : Exit → Act → World → Prop
  | .normal, _, W' => ∃ C', TurnC C C' W W' ∧ I xs C' W'
  | .ret, _, W' => ∃ C', TurnC C C' W W' ∧ Ix C' W'
  | _, _, _ => False
theorem wpIn_ret' {F : Fence} {n : Nat} {P : Program} {Q : Exit → Act → World → Prop} {a : Act} {w : World} (h : Q .ret a w) : Code.ret.wpIn F n P Q a w := by
  first | exact wpIn_ret h | exact (wpIn_ret).2 h

theorem range_out {α : Type} {P : Program} {n : Nat} {g : Operand} {ps : Array Tmp} {assign body : Code} {Q : Exit → Act → World → Prop} {a : Act} {w : World} {gf : Nat} {lb : Array Value} (hg : a.eval g = .func (.func gf) #[] lb)
    (eg : ∀ args w, (callFunc gf args).run P w = .ok (.enter gf args) w) {encs : α → Array Value} {xs : List α} {Rd : (Nat → Prop) → World → Prop} {Rx : α → World → Prop} (hh : HandsC P gf lb encs xs Rd Rx) (hps : ∀ x, (encs x).size = ps.size)
    (C0 : Nat → Prop) (I : List α → (Nat → Prop) → World → Prop) (Ix : (Nat → Prop) → World → Prop) (hI : ∀ pre, Abide w.heap.size (I pre)) (hIx : Abide w.heap.size Ix) (h0 : I [] C0 w)
    (hRd : ∀ W, Below w.heap.size w W → Rd (fun k => C0 k ∨ k = w.heap.size + 1) W) (hRx : ∀ pre x C A, pre ++ [x] <+: xs → I pre C A → Rx x A)
    (hround : ∀ (l : Nat) (pre : List α) (x : α) (C : Nat → Prop) (W : World), w.heap.size ≤ l → (∃ r, W.heap[l]? = some (.loop r)) → ¬ C l → pre ++ [x] <+: xs → I pre C W →
      assign.wpIn (Fence.wide.inRound l) 0 P (Exit.then (fun a1 W1 => Below W.heap.size W W1 ∧ ∀ W2, Swap l W1 W2 → body.wpIn (Fence.wide.inRound l) 0 P (roundC I Ix C (pre ++ [x]) W2) a1 W2) (fun _ _ _ => False)) { tmps := (ps.zip (encs x)).foldl (fun t (p, v) => t.setIfInBounds p v) a.tmps, defers := [] } W)
    (hdone : ∀ C W, w.heap.size + 2 ≤ W.heap.size → ¬ C w.heap.size → I xs C W → W.heap[w.heap.size]? = some (.deferred (some [])) → Q .normal { a with defers := { target := .collected w.heap.size, args := #[] } :: a.defers } W)
    (hstop : ∀ C W, w.heap.size + 2 ≤ W.heap.size → ¬ C w.heap.size → Ix C W → W.heap[w.heap.size]? = some (.deferred (some [])) → Q .ret { a with defers := { target := .collected w.heap.size, args := #[] } :: a.defers } W) :
    (Code.rangeFunc g ps assign body).wpIn Fence.wide n P Q a w := by
  refine wpIn_rangeFunc fun fn hfn => ?_
  obtain ⟨R, hR⟩ : ∃ R : LoopState → Option Code → Loop, R = fun st pe => { state := st, pending := pe, fn, tmps := a.tmps, params := ps, assign, body, defers := w.heap.size } := ⟨_, rfl⟩
  have s1 : ((w.alloc (.deferred (some []))).alloc (.loop (R .ready none))).heap[w.heap.size + 1]? = some (.loop (R .ready none)) := by
    have := World.alloc_heap_new (w.alloc (.deferred (some []))) (.loop (R .ready none))
    rwa [World.size_alloc] at this
  have s2 : ((w.alloc (.deferred (some []))).alloc (.loop (R .ready none))).heap[w.heap.size]? = some (.deferred (some [])) := (Below.heap_alloc _ _ _ (by simp)).trans (World.alloc_heap_new w _)
  have hb : Below w.heap.size w ((w.alloc (.deferred (some []))).alloc (.loop (R .ready none))) := ((Below.refl _ w).alloc (Nat.le_refl _) _).alloc (by simp) _
  have hsz : ((w.alloc (.deferred (some []))).alloc (.loop (R .ready none))).heap.size = w.heap.size + 2 := by simp
  obtain ⟨W1, hW1⟩ : ∃ W1, (w.alloc (.deferred (some []))).alloc (.loop (R .ready none)) = W1 := ⟨_, rfl⟩
  rw [hW1] at s1 s2 hb hsz
  have hlt0 := (hI []).lt _ _ h0
  have s3 : I [] C0 W1 := (hI []).keep _ _ _ h0 (.of_below hb)
  refine ⟨w.heap.size + 1, [{ target := .collected w.heap.size, args := #[] }], W1, { target := .fn (.func gf) lb, args := #[.func (.yield (w.heap.size + 1)) #[] #[]] }, W1, gf, #[.func (.yield (w.heap.size + 1)) #[] #[]] ++ lb, W1, ?_, ?_, fun _ _ => trivial, ?_, fun h => (by cases h), ?_⟩
  · rw [← hW1, hR]; exact run_enterLoop_outer _ _ _ _ _
  · simp only [resolve, hg]
    simp [go_sem]
  · simp [invoke, go_sem, eg]
  · refine callsIn_any ((hh (w.heap.size + 1)
      (fun pre C'' W => ∃ C, (∀ k, C'' k ↔ (C k ∨ k = w.heap.size + 1)) ∧ ¬ C (w.heap.size + 1) ∧ ¬ C w.heap.size ∧ I pre C W ∧ W.heap[w.heap.size + 1]? = some (.loop (R .ready none)) ∧ W.heap[w.heap.size]? = some (.deferred (some [])))
      (fun C'' W => ∃ C, (∀ k, C'' k ↔ (C k ∨ k = w.heap.size + 1)) ∧ ¬ C (w.heap.size + 1) ∧ ¬ C w.heap.size ∧ Ix C W ∧ W.heap[w.heap.size + 1]? = some (.loop (R .done (some .ret))) ∧ W.heap[w.heap.size]? = some (.deferred (some [])))
      (fun k => C0 k ∨ k = w.heap.size + 1) W1 ?_ ?_ ?_ (fun pre x C'' A hp h => by obtain ⟨C, _, _, _, hi, _, _⟩ := h; exact hRx pre x C A hp hi) (hRd W1 hb) ⟨C0, fun _ => Iff.rfl, fun h => by have := hlt0 _ h; omega, fun h => by have := hlt0 _ h; omega, s3, s1, s2⟩).mono ?_)
    · intro pre
      constructor
      · rintro C'' A ⟨C, hC, _, _, hi, h1, _⟩ k hk
        rcases (hC k).1 hk with q | rfl
        · exact (hI pre).lt _ _ hi k q
        · exact (Array.getElem?_eq_some_iff.1 h1).1
      · rintro C'' A A' ⟨C, hC, c1, c2, hi, h1, h2⟩ hk
        exact ⟨C, hC, c1, c2, (hI pre).keep _ _ _ hi (hk.mono (by omega) (fun k q => (hC k).2 (.inl q))), (hk.block _ (Array.getElem?_eq_some_iff.1 h1).1 (.inl (by omega))).trans h1, (hk.block _ (Array.getElem?_eq_some_iff.1 h2).1 (.inl (by omega))).trans h2⟩
    · constructor
      · rintro C'' A ⟨C, hC, _, _, hi, h1, _⟩ k hk
        rcases (hC k).1 hk with q | rfl
        · exact hIx.lt _ _ hi k q
        · exact (Array.getElem?_eq_some_iff.1 h1).1
      · rintro C'' A A' ⟨C, hC, c1, c2, hi, h1, h2⟩ hk
        exact ⟨C, hC, c1, c2, hIx.keep _ _ _ hi (hk.mono (by omega) (fun k q => (hC k).2 (.inl q))), (hk.block _ (Array.getElem?_eq_some_iff.1 h1).1 (.inl (by omega))).trans h1, (hk.block _ (Array.getElem?_eq_some_iff.1 h2).1 (.inl (by omega))).trans h2⟩
    · rintro pre x C'' A hpre ⟨C, hC, c1, c2, hi, h1, h2⟩
      have hlt := (Array.getElem?_eq_some_iff.1 h1).1
      have hy := run_yield (P := P) (args := encs x) h1 (by rw [hR]; exact hps x)
      rw [hR] at hy
      refine ⟨fn, _, assign, body, hy, roundIn_of_wpIn hfn (wpIn_mono (hround _ pre x C A (by omega) ⟨_, h1⟩ c1 hpre hi) ?_)⟩
      rintro e a1 A1 he
      cases e with
      | normal =>
        obtain ⟨hb1, hbody⟩ := he
        have h1' := (hb1.block _ hlt).trans h1
        have hlt1 := (Array.getElem?_eq_some_iff.1 h1').1
        refine ⟨_, run_beginRound h1' (by rw [hR]), wpIn_mono (hbody _ (swap_putObj _ hlt1)) ?_⟩
        have q1 := World.putObj_heap_same (o := .loop { R .ready none with state := .busy }) hlt1
        have q2 : (A1.putObj (w.heap.size + 1) (.loop { R .ready none with state := .busy })).heap[w.heap.size]? = some (.deferred (some [])) := (World.putObj_heap_other (by omega)).trans ((hb1.block _ (Array.getElem?_eq_some_iff.1 h2).1).trans h2)
        have fin : ∀ (jump : Option Code) (C' : Nat → Prop) (A3 : World), TurnC C C' (A1.putObj (w.heap.size + 1) (.loop { R .ready none with state := .busy })) A3 →
            ¬ C' (w.heap.size + 1) ∧ ¬ C' w.heap.size ∧ (Instr.endRound (w.heap.size + 1) jump).run P A3 = .ok (.bool jump.isNone) (A3.putObj (w.heap.size + 1) (.loop (R (if jump.isNone then .ready else .done) jump))) ∧
            TurnC C'' (fun k => C' k ∨ k = w.heap.size + 1) A (A3.putObj (w.heap.size + 1) (.loop (R (if jump.isNone then .ready else .done) jump))) ∧
            (A3.putObj (w.heap.size + 1) (.loop (R (if jump.isNone then .ready else .done) jump))).heap[w.heap.size + 1]? = some (.loop (R (if jump.isNone then .ready else .done) jump)) ∧
            (A3.putObj (w.heap.size + 1) (.loop (R (if jump.isNone then .ready else .done) jump))).heap[w.heap.size]? = some (.deferred (some [])) := by
          intro jump C' A3 ht
          have d1 : ¬ C' (w.heap.size + 1) := fun h => by rcases ht.new _ h with q | q; exact c1 q; simp at q; omega
          have d2 : ¬ C' w.heap.size := fun h => by rcases ht.new _ h with q | q; exact c2 q; simp at q; omega
          have q3 := (ht.block _ (by simpa using hlt1) c1).trans q1
          have q4 := (ht.block w.heap.size (by simp; omega) c2).trans q2
          have hr := run_endRound (P := P) jump q3
          have hlt3 := (Array.getElem?_eq_some_iff.1 q3).1
          refine ⟨d1, d2, by rw [hR] at hr ⊢; exact hr, ?_, World.putObj_heap_same hlt3, (World.putObj_heap_other (by omega)).trans q4⟩
          have t1 : TurnC C'' (fun k => C k ∨ k = w.heap.size + 1) A A1 := ⟨hb1.os, hb1.tape, hb1.output, hb1.size, fun k hk _ => hb1.block k hk, fun k hk => .inl ((hC k).2 hk)⟩
          exact ((t1.trans (TurnC.putObj _ _ (.inr rfl))).trans ht.wide).trans (TurnC.putObj _ _ (.inr rfl))
        rintro e3 a3 A3 hp
        cases e3 with
        | normal =>
          obtain ⟨C', ht, hi3⟩ := hp
          obtain ⟨d1, d2, hr, t, f1, f2⟩ := fin none C' A3 ht
          exact ⟨_, _, hr, _, t, .inl ⟨rfl, C', fun _ => Iff.rfl, d1, d2, (hI _).keep _ _ _ hi3 (KeepC.putObj _ _ (by omega) d1), f1, f2⟩⟩
        | ret =>
          obtain ⟨C', ht, hi3⟩ := hp
          obtain ⟨d1, d2, hr, t, f1, f2⟩ := fin (some .ret) C' A3 ht
          exact ⟨_, _, hr, _, t, .inr ⟨rfl, C', fun _ => Iff.rfl, d1, d2, hIx.keep _ _ _ hi3 (KeepC.putObj _ _ (by omega) d1), f1, f2⟩⟩
        | exit id => exact hp.elim
        | goto t => exact hp.elim
        | panic ch => exact hp.elim
        | outgrown => exact hp.elim
      | ret => exact he.elim
      | exit id => exact he.elim
      | goto t => exact he.elim
      | panic ch => exact he.elim
      | outgrown => exact he.elim
    · rintro e W2 ⟨⟨v, rfl⟩, C'', (⟨C, hC, c1, c2, hi, h1, h2⟩ | ⟨C, hC, c1, c2, hi, h1, h2⟩)⟩
      · have hlt := (Array.getElem?_eq_some_iff.1 h1).1
        exact ⟨none, _, by have := run_endLoop (P := P) h1 (by rw [hR]; simp); rw [hR] at this; exact this, hdone C _ (by simp; omega) c2 ((hI _).keep _ _ _ hi (KeepC.putObj _ _ (by omega) c1)) ((World.putObj_heap_other (by omega)).trans h2)⟩
      · have hlt := (Array.getElem?_eq_some_iff.1 h1).1
        exact ⟨some .ret, _, by have := run_endLoop (P := P) h1 (by rw [hR]; simp); rw [hR] at this; exact this, wpIn_ret' (hstop C _ (by simp; omega) c2 (hIx.keep _ _ _ hi (KeepC.putObj _ _ (by omega) c1)) ((World.putObj_heap_other (by omega)).trans h2))⟩
theorem range_in {α : Type} {P : Program} {n : Nat} {g : Operand} {ps : Array Tmp} {assign body : Code} {Q : Exit → Act → World → Prop} {a : Act} {w : World} {gf : Nat} {lb : Array Value} {l₀ : Nat} {r₀ : Loop} (hl₀ : w.heap[l₀]? = some (.loop r₀)) (hg : a.eval g = .func (.func gf) #[] lb)
    (eg : ∀ args w, (callFunc gf args).run P w = .ok (.enter gf args) w) {encs : α → Array Value} {xs : List α} {Rd : (Nat → Prop) → World → Prop} {Rx : α → World → Prop} (hh : HandsC P gf lb encs xs Rd Rx) (hps : ∀ x, (encs x).size = ps.size)
    (C0 : Nat → Prop) (I : List α → (Nat → Prop) → World → Prop) (Ix : (Nat → Prop) → World → Prop) (hI : ∀ pre, Abide w.heap.size (I pre)) (hIx : Abide w.heap.size Ix) (h0 : I [] C0 w)
    (hRd : ∀ W, Below w.heap.size w W → Rd (fun k => C0 k ∨ k = w.heap.size) W) (hRx : ∀ pre x C A, pre ++ [x] <+: xs → I pre C A → Rx x A)
    (hround : ∀ (l : Nat) (pre : List α) (x : α) (C : Nat → Prop) (W : World), w.heap.size ≤ l → (∃ r, W.heap[l]? = some (.loop r)) → ¬ C l → pre ++ [x] <+: xs → I pre C W →
      assign.wpIn (Fence.wide.inRound l) 0 P (Exit.then (fun a1 W1 => Below W.heap.size W W1 ∧ ∀ W2, Swap l W1 W2 → body.wpIn (Fence.wide.inRound l) 0 P (roundC I Ix C (pre ++ [x]) W2) a1 W2) (fun _ _ _ => False)) { tmps := (ps.zip (encs x)).foldl (fun t (p, v) => t.setIfInBounds p v) a.tmps, defers := [] } W)
    (hdone : ∀ C W, w.heap.size + 1 ≤ W.heap.size → ¬ C w.heap.size → I xs C W → Q .normal a W)
    (hstop : ∀ C W, w.heap.size + 1 ≤ W.heap.size → ¬ C w.heap.size → Ix C W → Q .ret a W) :
    (Code.rangeFunc g ps assign body).wpIn (Fence.wide.inRound l₀) n P Q a w := by
  refine wpIn_rangeFunc fun fn hfn => ?_
  obtain ⟨R, hR⟩ : ∃ R : LoopState → Option Code → Loop, R = fun st pe => { state := st, pending := pe, fn, tmps := a.tmps, params := ps, assign, body, defers := r₀.defers } := ⟨_, rfl⟩
  have s1 : (w.alloc (.loop (R .ready none))).heap[w.heap.size]? = some (.loop (R .ready none)) := World.alloc_heap_new _ _
  have hb : Below w.heap.size w (w.alloc (.loop (R .ready none))) := (Below.refl _ w).alloc (Nat.le_refl _) _
  have hsz : (w.alloc (.loop (R .ready none))).heap.size = w.heap.size + 1 := by simp
  obtain ⟨W1, hW1⟩ : ∃ W1, w.alloc (.loop (R .ready none)) = W1 := ⟨_, rfl⟩
  rw [hW1] at s1 hb hsz
  have hlt0 := (hI []).lt _ _ h0
  have s3 : I [] C0 W1 := (hI []).keep _ _ _ h0 (.of_below hb)
  refine ⟨w.heap.size, [], W1, { target := .fn (.func gf) lb, args := #[.func (.yield w.heap.size) #[] #[]] }, W1, gf, #[.func (.yield w.heap.size) #[] #[]] ++ lb, W1, ?_, ?_, fun _ _ => trivial, ?_, fun h => (by cases h), ?_⟩
  · rw [← hW1, hR]; exact run_enterLoop_inner hl₀ _ _ _ _ _
  · simp only [resolve, hg]
    simp [go_sem]
  · simp [invoke, go_sem, eg]
  · refine callsIn_any ((hh w.heap.size
      (fun pre C'' W => ∃ C, (∀ k, C'' k ↔ (C k ∨ k = w.heap.size)) ∧ ¬ C w.heap.size ∧ I pre C W ∧ W.heap[w.heap.size]? = some (.loop (R .ready none)))
      (fun C'' W => ∃ C, (∀ k, C'' k ↔ (C k ∨ k = w.heap.size)) ∧ ¬ C w.heap.size ∧ Ix C W ∧ W.heap[w.heap.size]? = some (.loop (R .done (some .ret))))
      (fun k => C0 k ∨ k = w.heap.size) W1 ?_ ?_ ?_ (fun pre x C'' A hp h => by obtain ⟨C, _, _, hi, _⟩ := h; exact hRx pre x C A hp hi) (hRd W1 hb) ⟨C0, fun _ => Iff.rfl, fun h => by have := hlt0 _ h; omega, s3, s1⟩).mono ?_)
    · intro pre
      constructor
      · rintro C'' A ⟨C, hC, _, hi, h1⟩ k hk
        rcases (hC k).1 hk with q | rfl
        · exact (hI pre).lt _ _ hi k q
        · exact (Array.getElem?_eq_some_iff.1 h1).1
      · rintro C'' A A' ⟨C, hC, c1, hi, h1⟩ hk
        exact ⟨C, hC, c1, (hI pre).keep _ _ _ hi (hk.mono (by omega) (fun k q => (hC k).2 (.inl q))), (hk.block _ (Array.getElem?_eq_some_iff.1 h1).1 (.inl (by omega))).trans h1⟩
    · constructor
      · rintro C'' A ⟨C, hC, _, hi, h1⟩ k hk
        rcases (hC k).1 hk with q | rfl
        · exact hIx.lt _ _ hi k q
        · exact (Array.getElem?_eq_some_iff.1 h1).1
      · rintro C'' A A' ⟨C, hC, c1, hi, h1⟩ hk
        exact ⟨C, hC, c1, hIx.keep _ _ _ hi (hk.mono (by omega) (fun k q => (hC k).2 (.inl q))), (hk.block _ (Array.getElem?_eq_some_iff.1 h1).1 (.inl (by omega))).trans h1⟩
    · rintro pre x C'' A hpre ⟨C, hC, c1, hi, h1⟩
      have hlt := (Array.getElem?_eq_some_iff.1 h1).1
      have hy := run_yield (P := P) (args := encs x) h1 (by rw [hR]; exact hps x)
      rw [hR] at hy
      refine ⟨fn, _, assign, body, hy, roundIn_of_wpIn hfn (wpIn_mono (hround _ pre x C A (by omega) ⟨_, h1⟩ c1 hpre hi) ?_)⟩
      rintro e a1 A1 he
      cases e with
      | normal =>
        obtain ⟨hb1, hbody⟩ := he
        have h1' := (hb1.block _ hlt).trans h1
        have hlt1 := (Array.getElem?_eq_some_iff.1 h1').1
        refine ⟨_, run_beginRound h1' (by rw [hR]), wpIn_mono (hbody _ (swap_putObj _ hlt1)) ?_⟩
        have q1 := World.putObj_heap_same (o := .loop { R .ready none with state := .busy }) hlt1
        have fin : ∀ (jump : Option Code) (C' : Nat → Prop) (A3 : World), TurnC C C' (A1.putObj w.heap.size (.loop { R .ready none with state := .busy })) A3 →
            ¬ C' w.heap.size ∧ (Instr.endRound w.heap.size jump).run P A3 = .ok (.bool jump.isNone) (A3.putObj w.heap.size (.loop (R (if jump.isNone then .ready else .done) jump))) ∧
            TurnC C'' (fun k => C' k ∨ k = w.heap.size) A (A3.putObj w.heap.size (.loop (R (if jump.isNone then .ready else .done) jump))) ∧
            (A3.putObj w.heap.size (.loop (R (if jump.isNone then .ready else .done) jump))).heap[w.heap.size]? = some (.loop (R (if jump.isNone then .ready else .done) jump)) := by
          intro jump C' A3 ht
          have d1 : ¬ C' w.heap.size := fun h => by rcases ht.new _ h with q | q; exact c1 q; simp at q; omega
          have q3 := (ht.block _ (by simpa using hlt1) c1).trans q1
          have hr := run_endRound (P := P) jump q3
          have hlt3 := (Array.getElem?_eq_some_iff.1 q3).1
          refine ⟨d1, by rw [hR] at hr ⊢; exact hr, ?_, World.putObj_heap_same hlt3⟩
          have t1 : TurnC C'' (fun k => C k ∨ k = w.heap.size) A A1 := ⟨hb1.os, hb1.tape, hb1.output, hb1.size, fun k hk _ => hb1.block k hk, fun k hk => .inl ((hC k).2 hk)⟩
          exact ((t1.trans (TurnC.putObj _ _ (.inr rfl))).trans ht.wide).trans (TurnC.putObj _ _ (.inr rfl))
        rintro e3 a3 A3 hp
        cases e3 with
        | normal =>
          obtain ⟨C', ht, hi3⟩ := hp
          obtain ⟨d1, hr, t, f1⟩ := fin none C' A3 ht
          exact ⟨_, _, hr, _, t, .inl ⟨rfl, C', fun _ => Iff.rfl, d1, (hI _).keep _ _ _ hi3 (KeepC.putObj _ _ (by omega) d1), f1⟩⟩
        | ret =>
          obtain ⟨C', ht, hi3⟩ := hp
          obtain ⟨d1, hr, t, f1⟩ := fin (some .ret) C' A3 ht
          exact ⟨_, _, hr, _, t, .inr ⟨rfl, C', fun _ => Iff.rfl, d1, hIx.keep _ _ _ hi3 (KeepC.putObj _ _ (by omega) d1), f1⟩⟩
        | exit id => exact hp.elim
        | goto t => exact hp.elim
        | panic ch => exact hp.elim
        | outgrown => exact hp.elim
      | ret => exact he.elim
      | exit id => exact he.elim
      | goto t => exact he.elim
      | panic ch => exact he.elim
      | outgrown => exact he.elim
    · rintro e W2 ⟨⟨v, rfl⟩, C'', (⟨C, hC, c1, hi, h1⟩ | ⟨C, hC, c1, hi, h1⟩)⟩
      · have hlt := (Array.getElem?_eq_some_iff.1 h1).1
        exact ⟨none, _, by have := run_endLoop (P := P) h1 (by rw [hR]; simp); rw [hR] at this; exact this, hdone C _ (by simp; omega) c1 ((hI _).keep _ _ _ hi (KeepC.putObj _ _ (by omega) c1))⟩
      · have hlt := (Array.getElem?_eq_some_iff.1 h1).1
        exact ⟨some .ret, _, by have := run_endLoop (P := P) h1 (by rw [hR]; simp); rw [hR] at this; exact this, wpIn_ret' (hstop C _ (by simp; omega) c1 (hIx.keep _ _ _ hi (KeepC.putObj _ _ (by omega) c1)))⟩
theorem boxed_keepN {N b : Nat} {C : Nat → Prop} {A A' : World} {t : TypeId} {v : Value} (h : Boxed A b t v) (hk : KeepC N C A A') (hN : b < N) : Boxed A' b t v := (hk.block b h.lt (.inl hN)).trans h
theorem boxed_below {B b : Nat} {A A' : World} {t : TypeId} {v : Value} (h : Boxed A b t v) (hk : Below B A A') (hN : b < B) : Boxed A' b t v := (hk.block b hN).trans h
theorem keep_not {C C' : Nat → Prop} {A A' : World} (ht : TurnC C C' A A') {b : Nat} (hb : b < A.heap.size) (h : ¬ C b) : ¬ C' b := fun q => by
  rcases ht.new b q with q | q
  · exact h q
  · omega
theorem boxed_turn {C C' : Nat → Prop} {A A' : World} (ht : TurnC C C' A A') {b : Nat} {t : TypeId} {v : Value} (hb : Boxed A b t v) (h : ¬ C b) : Boxed A' b t v := (ht.block b hb.lt h).trans hb
theorem TurnC.keepN {C C' : Nat → Prop} {W A A' : World} {N : Nat} (h : TurnC C C' W A) (hk : KeepC N C' A A') (hN : W.heap.size ≤ N) : TurnC C C' W A' :=
  ⟨hk.os.trans h.os, hk.tape.trans h.tape, hk.output.trans h.output, Nat.le_trans h.size hk.size, fun k hlt hc => (hk.block k (Nat.lt_of_lt_of_le hlt h.size) (.inl (by omega))).trans (h.block k hlt hc), h.new⟩
theorem keep_abide {J : (Nat → Prop) → World → Prop} {n0 N : Nat} (h : Abide n0 J) (hN : n0 ≤ N) : Abide N J := ⟨h.lt, fun C A A' hj hk => h.keep C A A' hj (hk.mono hN (fun _ q => q))⟩
theorem and_turn_abide {J : (Nat → Prop) → World → Prop} {N : Nat} {C0 : Nat → Prop} {W : World} (h : Abide N J) (hN : W.heap.size ≤ N) : Abide N (fun C A => J C A ∧ TurnC C0 C W A) :=
  ⟨fun C A hj => h.lt C A hj.1, fun C A A' hj hk => ⟨h.keep C A A' hj.1 hk, hj.2.keepN hk hN⟩⟩
theorem mem_of_pre {α : Type} {pre xs : List α} {x : α} (h : pre ++ [x] <+: xs) : x ∈ xs := h.subset (by simp)
theorem len_of_pre {α : Type} {pre xs : List α} {x : α} (h : pre ++ [x] <+: xs) : pre.length < xs.length := by have := h.length_le; simp at this; omega
/-- Blocks laid one behind another. -/
def lay : World → List Obj → World
  | w, [] => w
  | w, o :: os => lay (w.alloc o) os
theorem lay_facts : ∀ (os : List Obj) (w : World), (lay w os).heap.size = w.heap.size + os.length ∧ Below w.heap.size w (lay w os) ∧ ∀ (i : Nat) (o : Obj), os[i]? = some o → (lay w os).heap[w.heap.size + i]? = some o := by
  intro os
  induction os with
  | nil => intro w; exact ⟨rfl, Below.refl _ _, fun i o h => by simp at h⟩
  | cons a os ih =>
    intro w
    obtain ⟨h1, h2, h3⟩ := ih (w.alloc a)
    rw [World.size_alloc] at h1 h2 h3
    refine ⟨by rw [lay, h1, List.length_cons]; omega, ((Below.refl _ w).alloc (Nat.le_refl _) a).trans (h2.mono (Nat.le_succ _)), fun i o h => ?_⟩
    cases i with
    | zero =>
      simp at h
      subst h
      exact (h2.block _ (Nat.lt_succ_self _)).trans (World.alloc_heap_new w a)
    | succ i =>
      have := h3 i o (by simpa using h)
      rw [lay]
      rw [← this]
      congr 1
      omega
theorem leave_ret {P : Program} {fn : Func} {R : Ending → World → Prop} {tmps : Array Value} {D n : Nat} {W : World} {v : Value} (hK : W.heap[D]? = some (.deferred (some [])))
    (hr : (results fn tmps).run P (W.putObj D (.deferred none)) = .ok v (W.putObj D (.deferred none))) (hR : R (.returned v) (W.putObj D (.deferred none))) :
    bodyPostM Fence.wide n P fn R .ret { tmps := tmps, defers := [{ target := .collected D, args := #[] }] } W :=
  ⟨by simp, .inl ⟨_, _, rfl, run_takeDeferred hK, ⟨v, hr, hR⟩⟩⟩
theorem leave_end {P : Program} {fn : Func} {R : Ending → World → Prop} {tmps : Array Value} {D n : Nat} {W : World} {v : Value} (hK : W.heap[D]? = some (.deferred (some [])))
    (hr : (results fn tmps).run P (W.putObj D (.deferred none)) = .ok v (W.putObj D (.deferred none))) (hR : R (.returned v) (W.putObj D (.deferred none))) :
    bodyPostM Fence.wide n P fn R .normal { tmps := tmps, defers := [{ target := .collected D, args := #[] }] } W :=
  ⟨by simp, .inl ⟨_, _, rfl, run_takeDeferred hK, ⟨v, hr, hR⟩⟩⟩
theorem boxed_put {W : World} {b D : Nat} {t : TypeId} {v : Value} {o : Obj} (h : Boxed W b t v) (hne : b ≠ D) : Boxed (W.putObj D o) b t v := (World.putObj_heap_other hne).trans h
theorem below_put {W w : World} {B D : Nat} {o : Obj} (h : Below B w W) (hD : B ≤ D) : Below B w (W.putObj D o) :=
  h.trans ⟨rfl, rfl, rfl, by simp, fun k hk => World.putObj_heap_other (by omega)⟩
theorem def_set {W : World} {b D : Nat} {v : Value} {o : Obj} (h : W.heap[D]? = some o) (hne : D ≠ b) : (W.setCell ⟨b, 0, none⟩ v).heap[D]? = some o := (Below.heap_setCell _ _ _ D hne).trans h
theorem leave0 {P : Program} {fn : Func} {R : Ending → World → Prop} {tmps : Array Value} {n : Nat} {W : World} {v : Value} (hr : (results fn tmps).run P W = .ok v W) (hR : R (.returned v) W) :
    bodyPostM Fence.wide n P fn R .ret { tmps := tmps, defers := [] } W := ⟨v, hr, hR⟩
end Go.Proofs.YtjbdoeoimodhkaaGreatDoor
/- slices.Backward, handed out: strings and bools. -/
namespace Go.Proofs.YtjbdoeoimodhkaaGreatDoor
open Go.RowKit Go.Shelf
attribute [local go_sem] Oper.semAt_some

/-- From the last one to the first, each with its place. -/
def revE {α : Type} (xs : List α) : List (Nat × α) := (xs.zipIdx.map (fun p => (p.2, p.1))).reverse
theorem revE_take {α : Type} {xs : List α} {i : Nat} (h : i < xs.length) : revE (xs.take (i + 1)) = (i, xs[i]) :: revE (xs.take i) := by
  unfold revE
  rw [List.take_add_one, List.getElem?_eq_getElem h]
  show ((xs.take i ++ [xs[i]]).zipIdx.map _).reverse = _
  rw [List.zipIdx_append, List.map_append, List.reverse_append, List.length_take, Nat.min_eq_left (Nat.le_of_lt h)]
  show [(0 + i, xs[i])] ++ _ = _
  rw [Nat.zero_add]
  rfl
theorem revE_nil {α : Type} : revE ([] : List α) = [] := rfl
theorem revE_mem {α : Type} {xs : List α} {x : Nat × α} (h : x ∈ revE xs) : xs[x.1]? = some x.2 := by
  unfold revE at h
  rw [List.mem_reverse, List.mem_map] at h
  obtain ⟨p, hp, rfl⟩ := h
  have := List.mem_zipIdx_iff_getElem?.1 hp
  simpa using this
def encIS (x : Nat × ByteArray) : Array Value := #[.int .i64 (x.1 : Int), .string x.2]
def encIB (x : Nat × Bool) : Array Value := #[.int .i64 (x.1 : Int), .bool x.2]
set_option maxRecDepth 100000 in
set_option maxHeartbeats 2000000 in
theorem backS_hands (b : Nat) (a : Option Addr) (cap : Nat) (xs : List ByteArray) (hn : xs.length ≤ 1000000) : HandsC Tryz.prog 85 #[.pointer (some ⟨b, 0, none⟩)] encIS (revE xs) (fun C W => Boxed W b 32 (.slice a xs.length cap) ∧ ¬ C b) (fun x A => ∃ g, a = some ⟨g, 0, none⟩ ∧ xs.length ≤ cap ∧ A.cell? ⟨g, x.1, none⟩ = some (.string x.2)) := by
  intro l J Jx C W hJ hJx hY hX hRd h0
  obtain ⟨hb, hCb⟩ := hRd
  have c0 := hb.cell
  refine callsIn_of_wp Tryz.func85 rfl trivial ?_ rfl
  simp only [Tryz.ntmps85, List.size_toArray, List.length_cons, List.length_nil, Nat.reduceAdd, Nat.reduceSub, Array.replicate_succ, Array.replicate_zero, List.push_toArray, List.append_toArray, List.nil_append, List.cons_append]
  gi_wp2
  clear c0
  gi_loopw [3] (fun kv wr => ∃ (i : Nat) (pre : List (Nat × ByteArray)) (C : Nat → Prop), kv = .int .i64 ((i : Int) - 1) ∧ i ≤ xs.length ∧ J pre C wr ∧ Boxed wr b 32 (.slice a xs.length cap) ∧ ¬ C b ∧ pre ++ revE (xs.take i) = revE xs) (fun kv _ => (intOf kv + 1).toNat)
  case atStart => exact ⟨xs.length, [], C, rfl, Nat.le_refl _, h0, hb, hCb, by simp⟩
  case round =>
    obtain ⟨i, pre, C, rfl, hi, hJ1, hb1, hC1, hpre⟩ := hrel
    have c1 := hb1.cell
    cases i with
    | zero =>
      rw [List.take_zero, revE_nil, List.append_nil] at hpre
      rw [hpre] at hJ1
      gi_wp2
      go_end0
      exact ⟨⟨_, rfl⟩, C, .inl hJ1⟩
    | succ i =>
      have hlt : i < xs.length := by omega
      obtain ⟨x, hx⟩ : ∃ x, xs[i] = x := ⟨_, rfl⟩
      rw [revE_take hlt, hx] at hpre
      have hp : pre ++ [(i, x)] <+: revE xs := ⟨_, by rw [List.append_assoc]; exact hpre⟩
      obtain ⟨fn, tmps, assign, body, hy, hR⟩ := hY pre (i, x) C wr hp hJ1
      obtain ⟨g, rfl, hcap, hcell⟩ := hX pre (i, x) C wr hp hJ1
      have hy : (Instr.yield l #[.int .i64 (i : Int), .string x]).run Tryz.prog wr = .ok (.round l fn tmps assign body) wr := hy
      have hcell : wr.cell? ⟨g, i, none⟩ = some (.string x) := hcell
      have HPRE := hide hpre
      clear hpre hp hx
      have e0 : ((i + 1 : Nat) : Int) - 1 = (i : Int) := by omega
      rw [e0]
      clear e0
      have h1 : (0 : Int) ≤ (i : Int) := by omega
      have h2 : (i : Int) < (xs.length : Int) := by omega
      gi_wp2_with (refine ⟨trivial, ?_⟩)
      refine ⟨rfl, hR.mono ?_⟩
      rintro e W3 ⟨C', ht, (⟨rfl, hj⟩ | ⟨rfl, hj⟩)⟩
      · have hC2 := keep_not ht hb1.lt hC1
        have hb2 := boxed_turn ht hb1 hC1
        clear ht
        gi_wp2
        case roundEnd =>
          refine ⟨⟨i, pre ++ [(i, x)], C', by simp, by omega, hj, hb2, hC2, by rw [List.append_assoc]; exact HPRE.out⟩, ?_⟩
          simp [intOf]
      · clear ht
        gi_wp2
        exact bodyPost_ret (results_none rfl _ _ _) rfl ⟨⟨_, rfl⟩, C', .inr hj⟩
set_option maxRecDepth 100000 in
set_option maxHeartbeats 2000000 in
theorem backB_hands (b : Nat) (a : Option Addr) (cap : Nat) (xs : List Bool) (hn : xs.length ≤ 1000000) : HandsC Tryz.prog 102 #[.pointer (some ⟨b, 0, none⟩)] encIB (revE xs) (fun C W => Boxed W b 109 (.slice a xs.length cap) ∧ ¬ C b) (fun x A => ∃ g, a = some ⟨g, 0, none⟩ ∧ xs.length ≤ cap ∧ A.cell? ⟨g, x.1, none⟩ = some (.bool x.2)) := by
  intro l J Jx C W hJ hJx hY hX hRd h0
  obtain ⟨hb, hCb⟩ := hRd
  have c0 := hb.cell
  refine callsIn_of_wp Tryz.func102 rfl trivial ?_ rfl
  simp only [Tryz.ntmps102, List.size_toArray, List.length_cons, List.length_nil, Nat.reduceAdd, Nat.reduceSub, Array.replicate_succ, Array.replicate_zero, List.push_toArray, List.append_toArray, List.nil_append, List.cons_append]
  gi_wp2
  clear c0
  gi_loopw [3] (fun kv wr => ∃ (i : Nat) (pre : List (Nat × Bool)) (C : Nat → Prop), kv = .int .i64 ((i : Int) - 1) ∧ i ≤ xs.length ∧ J pre C wr ∧ Boxed wr b 109 (.slice a xs.length cap) ∧ ¬ C b ∧ pre ++ revE (xs.take i) = revE xs) (fun kv _ => (intOf kv + 1).toNat)
  case atStart => exact ⟨xs.length, [], C, rfl, Nat.le_refl _, h0, hb, hCb, by simp⟩
  case round =>
    obtain ⟨i, pre, C, rfl, hi, hJ1, hb1, hC1, hpre⟩ := hrel
    have c1 := hb1.cell
    cases i with
    | zero =>
      rw [List.take_zero, revE_nil, List.append_nil] at hpre
      rw [hpre] at hJ1
      gi_wp2
      go_end0
      exact ⟨⟨_, rfl⟩, C, .inl hJ1⟩
    | succ i =>
      have hlt : i < xs.length := by omega
      obtain ⟨x, hx⟩ : ∃ x, xs[i] = x := ⟨_, rfl⟩
      rw [revE_take hlt, hx] at hpre
      have hp : pre ++ [(i, x)] <+: revE xs := ⟨_, by rw [List.append_assoc]; exact hpre⟩
      obtain ⟨fn, tmps, assign, body, hy, hR⟩ := hY pre (i, x) C wr hp hJ1
      obtain ⟨g, rfl, hcap, hcell⟩ := hX pre (i, x) C wr hp hJ1
      have hy : (Instr.yield l #[.int .i64 (i : Int), .bool x]).run Tryz.prog wr = .ok (.round l fn tmps assign body) wr := hy
      have hcell : wr.cell? ⟨g, i, none⟩ = some (.bool x) := hcell
      have HPRE := hide hpre
      clear hpre hp hx
      have e0 : ((i + 1 : Nat) : Int) - 1 = (i : Int) := by omega
      rw [e0]
      clear e0
      have h1 : (0 : Int) ≤ (i : Int) := by omega
      have h2 : (i : Int) < (xs.length : Int) := by omega
      gi_wp2_with (refine ⟨trivial, ?_⟩)
      refine ⟨rfl, hR.mono ?_⟩
      rintro e W3 ⟨C', ht, (⟨rfl, hj⟩ | ⟨rfl, hj⟩)⟩
      · have hC2 := keep_not ht hb1.lt hC1
        have hb2 := boxed_turn ht hb1 hC1
        clear ht
        gi_wp2
        case roundEnd =>
          refine ⟨⟨i, pre ++ [(i, x)], C', by simp, by omega, hj, hb2, hC2, by rw [List.append_assoc]; exact HPRE.out⟩, ?_⟩
          simp [intOf]
      · clear ht
        gi_wp2
        exact bodyPost_ret (results_none rfl _ _ _) rfl ⟨⟨_, rfl⟩, C', .inr hj⟩
end Go.Proofs.YtjbdoeoimodhkaaGreatDoor
/- addAny. -/
namespace Go.Proofs.YtjbdoeoimodhkaaGreatDoor
open Go.RowKit Go.Shelf
attribute [local go_sem] Oper.semAt_some

theorem backB_any (a : Option Addr) (n c : Nat) (w : World) : Calls Tryz.prog 86 #[.slice a n c] w fun e w' => e = .returned (.func (.func 102) #[] #[.pointer (some ⟨w.heap.size, 0, none⟩)]) ∧ w' = w.alloc (.cells #[.slice a n c] 109) := by
  go_enter Tryz.func86, Tryz.ntmps86
  go_wp2
  go_ret
  exact ⟨rfl, rfl⟩
/-- Any number of parts may stand ahead. -/
def anyL : List Bool → List Bool
  | [] => []
  | b :: l => (b || (anyL l).headD false) :: anyL l
theorem anyL_length (l : List Bool) : (anyL l).length = l.length := by
  induction l with
  | nil => rfl
  | cons b l ih => simp [anyL, ih]
/-- A row of bools in its cells. -/
def BRow (A : World) (g : Nat) (rs : List Bool) : Prop := A.heap[g]? = some (.cells (rs.map Value.bool).toArray 4 (0, 0))
theorem BRow.lt {A : World} {g : Nat} {rs : List Bool} (h : BRow A g rs) : g < A.heap.size := (Array.getElem?_eq_some_iff.1 h).1
theorem BRow.cell {A : World} {g : Nat} {rs : List Bool} (h : BRow A g rs) {i : Nat} {b : Bool} (hi : rs[i]? = some b) : A.cell? ⟨g, i, none⟩ = some (.bool b) := by
  unfold World.cell?
  rw [show A.heap[g]? = _ from h]
  simp [hi]
theorem BRow.fr {A : World} {g : Nat} {rs : List Bool} (h : BRow A g rs) (i : Nat) : A.frozen? ⟨g, i, none⟩ = false := by simp [World.frozen?, show A.heap[g]? = _ from h]
theorem BRow.set {A : World} {g : Nat} {rs : List Bool} (h : BRow A g rs) (i : Nat) (b : Bool) : BRow (A.setCell ⟨g, i, none⟩ (.bool b)) g (rs.set i b) := by
  obtain ⟨hlt, hk⟩ := Array.getElem?_eq_some_iff.1 h
  show (A.heap.modify g _)[g]? = _
  rw [Array.getElem?_eq_getElem (by rw [Array.size_modify]; exact hlt), Array.getElem_modify_self, hk]
  show some (Obj.cells ((rs.map Value.bool).toArray.setIfInBounds i (.bool b)) 4 (0, 0)) = _
  rw [List.setIfInBounds_toArray, List.map_set]
theorem BRow.turn {C C' : Nat → Prop} {A A' : World} {g : Nat} {rs : List Bool} (ht : TurnC C C' A A') (h : BRow A g rs) (hg : ¬ C g) : BRow A' g rs := (ht.block g h.lt hg).trans h
theorem BRow.keepN {N g : Nat} {C : Nat → Prop} {A A' : World} {rs : List Bool} (h : BRow A g rs) (hk : KeepC N C A A') (hN : g < N ∨ C g) : BRow A' g rs := (hk.block g h.lt hN).trans h
/-- How far it has gone. -/
structure AnI (w : World) (g cap n0 : Nat) (rs : List Bool) (pre : List (Nat × Bool)) (C : Nat → Prop) (A : World) : Prop where
  cs : ∀ k, C k ↔ (k = g ∨ k = n0 + 1)
  b0 : Boxed A n0 109 (.slice (some ⟨g, 0, none⟩) rs.length cap)
  b1 : Boxed A (n0 + 1) 4 (.bool ((anyL (rs.drop (rs.length - pre.length))).headD false))
  row : BRow A g (rs.take (rs.length - pre.length) ++ anyL (rs.drop (rs.length - pre.length)))
  t : TurnC (fun k => k = g) C w A
  size : n0 + 3 ≤ A.heap.size
theorem anI_abide {w : World} {g cap n0 N : Nat} {rs : List Bool} (pre : List (Nat × Bool)) (hn : w.heap.size = n0) (hN : n0 + 3 ≤ N) (hg : g < n0) : Abide N (AnI w g cap n0 rs pre) := by
  constructor
  · intro C A h k hk
    rcases (h.cs k).1 hk with rfl | rfl
    · have := h.size; omega
    · have := h.size; omega
  · intro C A A' h hk
    exact ⟨h.cs, boxed_keepN h.b0 hk (by omega), boxed_keepN h.b1 hk (by omega), h.row.keepN hk (.inl (by omega)), h.t.keepN hk (by omega), Nat.le_trans h.size hk.size⟩
theorem any_step {rs : List Bool} {i : Nat} (h : i < rs.length) : anyL (rs.drop i) = (rs[i] || (anyL (rs.drop (i + 1))).headD false) :: anyL (rs.drop (i + 1)) := by
  rw [List.drop_eq_getElem_cons h]
  rfl
theorem revE_at {α : Type} {xs : List α} {pre : List (Nat × α)} {x : Nat × α} (h : pre ++ [x] <+: revE xs) : x.1 + pre.length + 1 = xs.length ∧ xs[x.1]? = some x.2 := by
  refine ⟨?_, revE_mem (mem_of_pre h)⟩
  obtain ⟨r, hr⟩ := h
  have e : (revE xs)[pre.length]? = some x := by rw [← hr]; simp
  unfold revE at e
  have hl : pre.length < xs.length := by
    have := congrArg List.length hr
    simp [revE] at this
    omega
  rw [List.getElem?_reverse (by simpa using hl)] at e
  simp only [List.length_map, List.length_zipIdx, List.getElem?_map, List.getElem?_zipIdx, Option.map_map, Option.map_eq_some_iff] at e
  obtain ⟨a, _, rfl⟩ := e
  simp
  omega
set_option maxRecDepth 100000 in
set_option maxHeartbeats 4000000 in
theorem addAny_any (g cap : Nat) (rs : List Bool) (w : World) (hr : BRow w g rs) (hl : rs.length ≤ 1000000) (hcap : rs.length ≤ cap) :
    Calls Tryz.prog 63 #[.slice (some ⟨g, 0, none⟩) rs.length cap] w fun e w' => (∃ v, e = .returned v) ∧ BRow w' g (anyL rs) ∧ TurnC (fun k => k = g) (fun k => k = g) w w' := by
  obtain ⟨n0, hn0⟩ : ∃ n, w.heap.size = n := ⟨_, rfl⟩
  have hg : g < n0 := by rw [← hn0]; exact hr.lt
  refine (callsIn_wide (n := 0)).1 ?_
  refine callsIn_of_wp_marks Tryz.func63 rfl trivial ?_ rfl
  simp only [Tryz.ntmps63, List.size_toArray, List.length_cons, List.length_nil, Nat.reduceAdd, Nat.reduceSub, Array.replicate_succ, Array.replicate_zero, List.push_toArray, List.append_toArray, List.nil_append, List.cons_append]
  gi_wp2_with fail
  refine ⟨trivial, rfl, CallsIn.mono (callsIn_wide.2 (backB_any _ _ _ _)) ?_⟩
  rintro e w' ⟨rfl, hw⟩
  rw [hw]
  clear hw w'
  gi_wp2_with fail
  obtain ⟨w1, hw1⟩ : ∃ w1, lay w [.cells #[.slice (some ⟨g, 0, none⟩) rs.length cap] 109, .cells #[.bool false] 4, .cells #[.slice (some ⟨g, 0, none⟩) rs.length cap] 109] = w1 := ⟨_, rfl⟩
  obtain ⟨z1, l1, f1⟩ := lay_facts [.cells #[.slice (some ⟨g, 0, none⟩) rs.length cap] 109, .cells #[.bool false] 4, .cells #[.slice (some ⟨g, 0, none⟩) rs.length cap] 109] w
  rw [hw1] at z1 l1 f1
  rw [hn0] at z1 l1 f1
  simp only [lay] at hw1
  rw [hw1]
  clear hw1
  replace z1 : w1.heap.size = n0 + 3 := z1
  have q0 : Boxed w1 n0 109 (.slice (some ⟨g, 0, none⟩) rs.length cap) := f1 0 _ rfl
  have q1 : Boxed w1 (n0 + 1) 4 (.bool false) := f1 1 _ rfl
  have q2 : Boxed w1 (n0 + 1 + 1) 109 (.slice (some ⟨g, 0, none⟩) rs.length cap) := f1 2 _ rfl
  have hr1 : BRow w1 g rs := (l1.block g hg).trans hr
  clear f1
  have hT1 : TurnC (fun k => k = g) (fun k => k = g ∨ k = n0 + 1) w w1 := ⟨l1.os, l1.tape, l1.output, l1.size, fun k hk _ => l1.block k (by omega), fun k hk => by
    rcases hk with rfl | rfl
    · exact .inl rfl
    · exact .inr (by omega)⟩
  refine range_out (gf := 102) (lb := #[.pointer (some ⟨n0 + 1 + 1, 0, none⟩)]) rfl (enters_of Tryz.func102 (by kernel_rfl) rfl) (backB_hands (n0 + 1 + 1) (some ⟨g, 0, none⟩) cap rs hl) (fun _ => rfl)
    (fun k => k = g ∨ k = n0 + 1) (AnI w g cap n0 rs) (fun _ _ => False) (fun pre => anI_abide pre hn0 (by omega) hg) ⟨fun _ _ h => h.elim, fun _ _ _ h _ => h⟩
    ⟨fun _ => Iff.rfl, q0, by simpa [anyL] using q1, by simpa [anyL] using hr1, hT1, by omega⟩ (fun W hB => ⟨boxed_below q2 hB (by omega), fun q => by omega⟩)
    (fun pre x C A hp hI => ⟨g, rfl, hcap, by
      obtain ⟨e1, e2⟩ := revE_at hp
      refine hI.row.cell ?_
      have hlt : x.1 < rs.length := (List.getElem?_eq_some_iff.1 e2).1
      rw [List.getElem?_append_left (by rw [List.length_take]; omega), List.getElem?_take_of_lt (by omega)]
      exact e2⟩) ?round ?done ?stop
  case round =>
    clear q0 q1 q2 hr1 hT1 hr
    rintro l2 pre ⟨i, b⟩ C W hl2 hrec hCl2 hpre hI
    obtain ⟨e1, e2⟩ := revE_at hpre
    dsimp only at e1 e2
    obtain ⟨hlt, e2⟩ := List.getElem?_eq_some_iff.1 e2
    simp only [encIB]
    gi_wp2
    refine ⟨Below.refl _ _, fun W2 hsw => ?_⟩
    have hI2 := (anI_abide (N := w1.heap.size) pre hn0 (by omega) hg).keep _ _ _ hI (hsw.keep hl2 hCl2)
    clear hI hsw hrec
    have hj : rs.length - pre.length = i + 1 := by omega
    have hj2 : rs.length - (pre ++ [(i, b)]).length = i := by simp; omega
    obtain ⟨cs, c0, c1, row, tt, sz⟩ := hI2
    rw [hj] at c1 row
    have hst := any_step hlt
    rw [e2] at hst
    obtain ⟨met, hmet⟩ : ∃ met, (anyL (rs.drop (i + 1))).headD false = met := ⟨_, rfl⟩
    rw [hmet] at c1 hst
    have k0 := c0.cell
    have k1 := c1.cell
    have f1 := c1.frozen
    have hne : g ≠ n0 + 1 := by omega
    have kg : W2.cell? ⟨g, i, none⟩ = some (.bool b) := row.cell (by rw [List.getElem?_append_left (by rw [List.length_take]; omega), List.getElem?_take_of_lt (by omega), List.getElem?_eq_getElem hlt, e2])
    have fg := row.fr i
    have hiI : (i : Int) < (rs.length : Int) := by omega
    have fin : ∀ (u : Bool) (a : Act), u = (b || met) → roundC (AnI w g cap n0 rs) (fun _ _ => False) C (pre ++ [(i, b)]) W2 .normal a ((W2.setCell ⟨n0 + 1, 0, none⟩ (.bool u)).setCell ⟨g, i, none⟩ (.bool u)) := by
      intro u a hu
      have row2 : BRow (W2.setCell ⟨n0 + 1, 0, none⟩ (.bool u)) g (rs.take (i + 1) ++ anyL (rs.drop (i + 1))) := (Below.heap_setCell _ _ _ g hne).trans row
      have t1 : TurnC C C W2 (W2.setCell ⟨n0 + 1, 0, none⟩ (.bool u)) := .setCell _ _ _ ((cs _).2 (.inr rfl))
      have t2 : TurnC C C (W2.setCell ⟨n0 + 1, 0, none⟩ (.bool u)) ((W2.setCell ⟨n0 + 1, 0, none⟩ (.bool u)).setCell ⟨g, i, none⟩ (.bool u)) := .setCell _ _ _ ((cs _).2 (.inl rfl))
      refine ⟨C, t1.trans t2, cs, ?_, ?_, ?_, tt.trans (t1.trans t2), Nat.le_trans sz (t1.trans t2).size⟩
      · exact boxed_turn t2 (boxed_turn (TurnC.setCell (C := fun k => k = n0 + 1) _ _ _ rfl) c0 (by omega)) (fun q => by rcases (cs _).1 q with q | q <;> omega)
      · rw [hj2, hst, ← hu]
        refine (Below.heap_setCell _ _ _ (n0 + 1) (Ne.symm hne)).trans ?_
        exact c1.set (.bool u)
      · rw [hj2, hst, ← hu]
        have h3 := row2.set i u
        have e3 : (rs.take (i + 1) ++ anyL (rs.drop (i + 1))).set i u = rs.take i ++ u :: anyL (rs.drop (i + 1)) := by
          rw [List.take_add_one, List.getElem?_eq_getElem hlt, List.append_assoc, List.set_append_right _ _ (by rw [List.length_take]; omega), List.length_take, Nat.min_eq_left (by omega), Nat.sub_self]
          rfl
        rw [e3] at h3
        exact h3
    have FIN := hide fin
    clear fin cs c0 c1 row tt sz hst hmet hj hj2 e1 e2 hpre
    cases met with
    | true =>
      gi_wp2
      exact FIN.out true _ (by simp)
    | false =>
      gi_wp2
      exact FIN.out b _ (by simp)
  case done =>
    rintro C W hz hC hI hK
    gi_wp2
    refine leave_end hK (results_none rfl _ _ _) ⟨⟨_, rfl⟩, ?_, ?_⟩
    · have hrow := hI.row
      have e : (revE rs).length = rs.length := by simp [revE]
      rw [e, Nat.sub_self, List.drop_zero, List.take_zero, List.nil_append] at hrow
      exact (World.putObj_heap_other (by omega)).trans hrow
    · have ht := hI.t
      exact ⟨ht.os, ht.tape, ht.output, by simpa using ht.size, fun k hk hc => (World.putObj_heap_other (by omega)).trans (ht.block k hk hc), fun k hk => .inl hk⟩
  case stop =>
    rintro C W hz hC hI hK
    exact hI.elim
end Go.Proofs.YtjbdoeoimodhkaaGreatDoor
/- A region in any order, by an invariant, inside a round; rowMeans' own. -/
namespace Go.Proofs.YtjbdoeoimodhkaaGreatDoor.Rg
open Go.RowKit Go.Shelf
attribute [local go_sem] Oper.semAt_some

section
variable {P : Program} {ops : Array Oper} {Q : Exit → Act → World → Prop} {md : Region.Mode} {F : Fence} {n : Nat}
def unl (listed : Array Bool) : Nat := listed.toList.countP (fun b => !b)
theorem unl_set {listed : Array Bool} {i : Nat} (h : listed.getD i true = false) : unl (listed.setIfInBounds i true) + 1 = unl listed := by
  obtain ⟨l⟩ := listed
  unfold unl
  have h' : l.getD i true = false := by simpa [Array.getD_eq_getD_getElem?, List.getD_eq_getElem?_getD] using h
  clear h
  simp only [List.setIfInBounds_toArray]
  induction l generalizing i with
  | nil => simp at h'
  | cons x l ih =>
    match i with
    | 0 =>
      simp at h'
      subst h'
      simp
    | i + 1 =>
      have := ih (i := i) (by simpa using h')
      simp only [List.set_cons_succ, List.countP_cons]
      omega
theorem ready_mem {listed : Array Bool} {i : Nat} (h : i ∈ Region.ready md ops listed) : ∃ o, ops[i]? = some o ∧ listed.getD i true = false ∧ ∀ e ∈ o.after, Region.binds md e = true → listed.getD e.on false = true := by
  unfold Region.ready at h
  rw [List.mem_filter] at h
  obtain ⟨h1, h2⟩ := h
  rw [List.mem_range] at h1
  refine ⟨ops[i], Array.getElem?_eq_getElem h1, ?_, ?_⟩
  · rw [Bool.and_eq_true] at h2
    simpa using h2.1
  · rw [Bool.and_eq_true, Array.getElem?_eq_getElem h1] at h2
    have h3 := h2.2
    simp only [Option.map_some, Option.getD_some, Array.all_eq_true_iff_forall_mem] at h3
    intro e he hb
    have := h3 e he
    simpa [hb] using this
theorem wpAnyIn_inv {I : Array Bool → Act → World → Prop}
    (hend : ∀ listed a w, I listed a w → Region.ready md ops listed = [] → Q .normal a w)
    (hstep : ∀ listed a w i o, I listed a w → ops[i]? = some o → listed.getD i true = false → (∀ e ∈ o.after, Region.binds md e = true → listed.getD e.on false = true) →
      ∀ K' : Act → World → Prop, (∀ a' w', I (listed.setIfInBounds i true) a' w' → K' a' w') → if Region.wanted o (yielded ops a.tmps) = true then o.wpIn F n P a w K' Q else (∀ f, o.about P w a.eval = some f → F.fn f) ∧ K' (a.put o.dst undef) w) :
    ∀ (fuel : Nat) (listed : Array Bool) (a : Act) (w : World), unl listed ≤ fuel → I listed a w → wpAnyIn F n P md ops Q fuel listed a w := by
  intro fuel
  induction fuel with
  | zero =>
    intro listed a w hu hI
    have hr : Region.ready md ops listed = [] := by
      cases hr : Region.ready md ops listed with
      | nil => rfl
      | cons i rs =>
        obtain ⟨o, _, h2, _⟩ := ready_mem (md := md) (ops := ops) (listed := listed) (i := i) (by rw [hr]; simp)
        have := unl_set h2
        omega
    exact ⟨hr, hend _ _ _ hI hr⟩
  | succ fuel ih =>
    intro listed a w hu hI
    refine ⟨fun hr => hend _ _ _ hI hr, fun i hi => ?_⟩
    obtain ⟨o, h1, h2, h3⟩ := ready_mem hi
    have hs := unl_set h2
    have hst := hstep listed a w i o hI h1 h2 h3 (wpAnyIn F n P md ops Q fuel (listed.setIfInBounds i true)) (fun a' w' h => ih _ a' w' (by omega) h)
    unfold wpOpIn
    rw [h1]
    exact hst
end
def fl (listed : Array Bool) (k : Nat) : Bool := listed.getD k false
theorem fl_ne {listed : Array Bool} {i k : Nat} (hk : k ≠ i) : fl (listed.setIfInBounds i true) k = fl listed k := by
  unfold fl
  rw [Array.getD_eq_getD_getElem?, Array.getD_eq_getD_getElem?, Array.getElem?_setIfInBounds_ne (fun e => hk e.symm)]
theorem fl_self {listed : Array Bool} {i : Nat} (h : i < listed.size) : fl (listed.setIfInBounds i true) i = true := by
  unfold fl
  rw [Array.getD_eq_getD_getElem?, Array.getElem?_setIfInBounds_self_of_lt h]
  rfl
theorem fl_none (n k : Nat) : fl (Array.replicate n false) k = false := by
  unfold fl
  rw [Array.getD_eq_getD_getElem?, Array.getElem?_replicate]
  split <;> rfl
theorem fl_not {listed : Array Bool} {i : Nat} (h : listed.getD i true = false) : fl listed i = false := by
  unfold fl
  rw [Array.getD_eq_getD_getElem?] at h ⊢
  cases e : listed[i]? with
  | none => rw [e] at h; simp at h
  | some x => rw [e] at h; simpa using h
theorem after_ok' {ops : Array Oper} (h : ((List.range ops.size).all fun i => (ops[i]?).all fun o => o.after.all fun e => !(Region.binds .any e) || decide (e.on < i)) = true) : ∀ (i : Nat) (o : Oper), ops[i]? = some o → ∀ e ∈ o.after, Region.binds .any e = true → e.on < i := by
  intro i o ho e he hb
  rw [List.all_eq_true] at h
  have h1 := h i (List.mem_range.2 (Array.getElem?_eq_some_iff.1 ho).1)
  rw [ho] at h1
  simp only [Option.all_some, Array.all_eq_true_iff_forall_mem] at h1
  have := h1 e he
  rw [hb] at this
  simpa using this
theorem all_listed' {ops : Array Oper} {listed : Array Bool} (hs : listed.size = ops.size) (hr : Region.ready .any ops listed = []) (ha : ∀ (i : Nat) (o : Oper), ops[i]? = some o → ∀ e ∈ o.after, Region.binds .any e = true → e.on < i) : ∀ i, i < ops.size → listed.getD i false = true := by
  intro i
  induction i using Nat.strongRecOn with
  | ind i ih =>
    intro hi
    cases hl : listed.getD i false with
    | true => rfl
    | false =>
      have hl' : listed.getD i true = false := by
        rw [Array.getD_eq_getD_getElem?, Array.getElem?_eq_getElem (by omega)] at hl ⊢
        exact hl
      have : i ∈ Region.ready .any ops listed := by
        unfold Region.ready
        rw [List.mem_filter, List.mem_range]
        refine ⟨hi, ?_⟩
        rw [hl', Array.getElem?_eq_getElem hi]
        simp only [Bool.not_false, Bool.true_and, Option.map_some, Option.getD_some, Array.all_eq_true_iff_forall_mem]
        intro e he
        cases hb : Region.binds .any e with
        | false => simp
        | true =>
          have hlt := ha i ops[i] (Array.getElem?_eq_getElem hi) e he hb
          rw [ih e.on hlt (by omega)]
          simp
      rw [hr] at this
      cases this
theorem st_valIn {l n : Nat} {P : Program} {ops : Array Oper} {Q : Exit → Act → World → Prop} {o : Oper} {a : Act} {w w' : World} {K : Act → World → Prop} {E : Prop} {v : Value} (hg : o.guard = none) (hd : ∀ c, o.op ≠ .defer c) (he : (execOp a.eval o).run P w = .ok (.value v) w') (hk : K (a.put o.dst v) w') :
    if Region.wanted o (yielded ops a.tmps) = true then o.wpIn (Fence.wide.inRound l) n P a w K Q else E := by
  have hw : Region.wanted o (yielded ops a.tmps) = true := by simp [Region.wanted, hg]
  rw [if_pos hw]
  refine ⟨fun _ _ => trivial, ?_⟩
  show Oper.uponIn _ _ _ _ _ _ _ ((Oper.semAt (some l) a.eval o).run P w)
  rw [Oper.semAt_some l a.eval o hd, he]
  exact hk
theorem st_skpIn {l n : Nat} {P : Program} {ops : Array Oper} {Q : Exit → Act → World → Prop} {o : Oper} {a : Act} {w w' : World} {K : Act → World → Prop} {E : Prop} (hg : o.guard = none) (hd : ∀ c, o.op ≠ .defer c) (he : (execOp a.eval o).run P w = .ok .skip w') (hk : K (a.put o.dst undef) w') :
    if Region.wanted o (yielded ops a.tmps) = true then o.wpIn (Fence.wide.inRound l) n P a w K Q else E := by
  have hw : Region.wanted o (yielded ops a.tmps) = true := by simp [Region.wanted, hg]
  rw [if_pos hw]
  refine ⟨fun _ _ => trivial, ?_⟩
  show Oper.uponIn _ _ _ _ _ _ _ ((Oper.semAt (some l) a.eval o).run P w)
  rw [Oper.semAt_some l a.eval o hd, he]
  exact hk
theorem st_offIn {l n : Nat} {P : Program} {ops : Array Oper} {Q : Exit → Act → World → Prop} {o : Oper} {a : Act} {w : World} {K : Act → World → Prop} (hw : Region.wanted o (yielded ops a.tmps) = false) (hk : K (a.put o.dst undef) w) :
    if Region.wanted o (yielded ops a.tmps) = true then o.wpIn (Fence.wide.inRound l) n P a w K Q else (∀ f, o.about P w a.eval = some f → (Fence.wide.inRound l).fn f) ∧ K (a.put o.dst undef) w := by
  rw [if_neg (by rw [hw]; decide)]
  exact ⟨fun _ _ => trivial, hk⟩
theorem st_onIn {l n : Nat} {P : Program} {ops : Array Oper} {Q : Exit → Act → World → Prop} {o : Oper} {a : Act} {w w' : World} {K : Act → World → Prop} {E : Prop} {v : Value} (hw : Region.wanted o (yielded ops a.tmps) = true) (hd : ∀ c, o.op ≠ .defer c) (he : (execOp a.eval o).run P w = .ok (.value v) w') (hk : K (a.put o.dst v) w') :
    if Region.wanted o (yielded ops a.tmps) = true then o.wpIn (Fence.wide.inRound l) n P a w K Q else E := by
  rw [if_pos hw]
  refine ⟨fun _ _ => trivial, ?_⟩
  show Oper.uponIn _ _ _ _ _ _ _ ((Oper.semAt (some l) a.eval o).run P w)
  rw [Oper.semAt_some l a.eval o hd, he]
  exact hk
theorem st_callIn {l n : Nat} {P : Program} {ops : Array Oper} {Q : Exit → Act → World → Prop} {o : Oper} {a : Act} {w : World} {K : Act → World → Prop} {E : Prop} {f : FuncId} {args : Array Value} {R : Ending → World → Prop} (hw : Region.wanted o (yielded ops a.tmps) = true) (hd : ∀ c, o.op ≠ .defer c) (he : (execOp a.eval o).run P w = .ok (.enter f args) w)
    (hc : Calls P f args w R) (hk : ∀ e w', R e w' → ∃ v, e = .returned v ∧ K (a.put o.dst v) w') :
    if Region.wanted o (yielded ops a.tmps) = true then o.wpIn (Fence.wide.inRound l) n P a w K Q else E := by
  rw [if_pos hw]
  refine ⟨fun _ _ => trivial, ?_⟩
  show Oper.uponIn _ _ _ _ _ _ _ ((Oper.semAt (some l) a.eval o).run P w)
  rw [Oper.semAt_some l a.eval o hd, he]
  rw [Oper.uponIn_enter]
  refine ⟨fun h => (by cases h), ?_⟩
  refine CallsIn.mono (CallsIn.inRound l (callsIn_wide.2 hc)) ?_
  intro e w' hr
  obtain ⟨v, rfl, hk⟩ := hk e w' hr
  exact hk
/-- The slots of the region, and the world. -/
structure R14 (mk : Value → Value → Value → Value → Value → Value → Value → Value → Value → Value → Value → Value → Value → Array Value) (g nn j : Nat) (p q : ByteArray) (b1 m : Bool) (wr : World) (listed : Array Bool) (a : Act) (w : World) : Prop where
  size : listed.size = 14
  slots : ∃ x46 x47 x48 x49 x50 x51 x52 x53 x54 x55 x56 x57 x58, a = ⟨mk x46 x47 x48 x49 x50 x51 x52 x53 x54 x55 x56 x57 x58, []⟩ ∧ (fl listed 0 = true → x46 = .slice (some ⟨g, 0, none⟩) (nn + 1) (nn + 1)) ∧ (fl listed 1 = true → x47 = .int .i64 (j : Int)) ∧ (fl listed 2 = true → x48 = .slice (some ⟨g, 0, none⟩) (nn + 1) (nn + 1)) ∧ (fl listed 3 = true → x49 = .int .i64 (j : Int)) ∧ (fl listed 4 = true → x50 = .int .i64 ((j : Int) + 1)) ∧ (fl listed 5 = true → x51 = .pointer (some ⟨g, j + 1, none⟩)) ∧ (fl listed 6 = true → x52 = .bool b1) ∧ (fl listed 7 = true → x53 = .bool b1) ∧ (fl listed 8 = true → b1 = true → x54 = .string p) ∧ (fl listed 9 = true → b1 = true → x55 = .string q) ∧ (fl listed 10 = true → b1 = true → x56 = .bool m) ∧ (fl listed 11 = true → x57 = .bool (b1 && m)) ∧ (fl listed 12 = true → x58 = .pointer (some ⟨g, j, none⟩))
  world : (fl listed 13 = false ∧ Below wr.heap.size wr w ∧ (fl listed 10 = false → w = wr.drew)) ∨ (fl listed 13 = true ∧ (∀ i, i < 13 → fl listed i = true) ∧ ∃ w0, Below wr.heap.size wr w0 ∧ w = w0.setCell ⟨g, j, none⟩ (.bool (b1 && m)))
def ops14 : Array Oper := #[{ dst := some 46, op := Op.load 109 (Operand.tmp 6), type := 109, pos := "parts.go:29", after := #[], guard := none },
  { dst := some 47, op := Op.move (Operand.tmp 9), type := 3, pos := "parts.go:29", after := #[], guard := none },
  { dst := some 48, op := Op.load 109 (Operand.tmp 6), type := 109, pos := "parts.go:29", after := #[], guard := none },
  { dst := some 49, op := Op.move (Operand.tmp 9), type := 3, pos := "parts.go:29", after := #[], guard := none },
  { dst := some 50, op := Op.binOp BinOp.add 3 (Operand.tmp 49) (Operand.const (Value.int IntKind.i64 1)) 3, type := 3, pos := "parts.go:29", after := #[{ on := 3, ground := Ground.data }], guard := none },
  { dst := some 51, op := Op.indexAddr 109 (Operand.tmp 48) (Operand.tmp 50), type := 0, pos := "parts.go:29", after := #[{ on := 2, ground := Ground.data }, { on := 4, ground := Ground.data }], guard := none },
  { dst := some 52, op := Op.load 4 (Operand.tmp 51), type := 4, pos := "parts.go:29", after := #[{ on := 5, ground := Ground.data }], guard := none },
  { dst := some 53, op := Op.move (Operand.tmp 52), type := 4, pos := "parts.go:29", after := #[{ on := 6, ground := Ground.data }], guard := none },
  { dst := some 54, op := Op.move (Operand.tmp 8), type := 9, pos := "parts.go:29", after := #[{ on := 7, ground := Ground.guard }], guard := some (7, true) },
  { dst := some 55, op := Op.move (Operand.tmp 10), type := 9, pos := "parts.go:29", after := #[{ on := 7, ground := Ground.guard }], guard := some (7, true) },
  { dst := some 56, op := Op.call { callee := Callee.value (Operand.func 41), args := #[Operand.tmp 54, Operand.tmp 55], argTypes := #[9, 9] }, type := 4, pos := "parts.go:29", after := #[{ on := 8, ground := Ground.data }, { on := 9, ground := Ground.data }, { on := 7, ground := Ground.chain }, { on := 7, ground := Ground.guard }], guard := some (7, true) },
  { dst := some 57, op := Op.pick (Operand.tmp 53) (Operand.tmp 56) (Operand.const (Value.bool false)), type := 4, pos := "parts.go:29", after := #[{ on := 7, ground := Ground.data }, { on := 10, ground := Ground.data }], guard := none },
  { dst := some 58, op := Op.indexAddr 109 (Operand.tmp 46) (Operand.tmp 47), type := 0, pos := "parts.go:29", after := #[{ on := 0, ground := Ground.data }, { on := 1, ground := Ground.data }, { on := 0, ground := Ground.phase }, { on := 1, ground := Ground.phase }, { on := 2, ground := Ground.phase }, { on := 3, ground := Ground.phase }, { on := 4, ground := Ground.phase }, { on := 5, ground := Ground.phase }, { on := 6, ground := Ground.phase }, { on := 7, ground := Ground.phase }, { on := 8, ground := Ground.phase }, { on := 9, ground := Ground.phase }, { on := 10, ground := Ground.phase }, { on := 11, ground := Ground.phase }], guard := none },
  { dst := none, op := Op.store 4 (Operand.tmp 58) (Operand.tmp 57), type := 0, pos := "parts.go:29", after := #[{ on := 12, ground := Ground.data }, { on := 11, ground := Ground.data }, { on := 10, ground := Ground.chain }, { on := 0, ground := Ground.phase }, { on := 1, ground := Ground.phase }, { on := 2, ground := Ground.phase }, { on := 3, ground := Ground.phase }, { on := 4, ground := Ground.phase }, { on := 5, ground := Ground.phase }, { on := 6, ground := Ground.phase }, { on := 7, ground := Ground.phase }, { on := 8, ground := Ground.phase }, { on := 9, ground := Ground.phase }, { on := 10, ground := Ground.phase }, { on := 11, ground := Ground.phase }], guard := none }]
set_option maxRecDepth 100000 in
set_option maxHeartbeats 8000000 in
theorem reg14 {l : Nat} {Q : Exit → Act → World → Prop} {t0 t1 t2 t3 t4 t5 t7 t11 t12 t13 t14 t15 t16 t17 t18 t19 t20 t21 t22 t23 t24 t25 t26 t27 t28 t29 t30 t31 t32 t33 t34 t35 t36 t37 t38 t39 t40 t41 t42 t43 t44 t45 t46 t47 t48 t49 t50 t51 t52 t53 t54 t55 t56 t57 t58 t59 t60 t61 t62 t63 t64 t65 : Value} (b4 g nn j : Nat) (p q : ByteArray) (b0 b1 m : Bool) (wr : World) (hj : j < nn) (hnn : nn ≤ 999999) (cb4 : wr.cell? ⟨b4, 0, none⟩ = some (.slice (some ⟨g, 0, none⟩) (nn + 1) (nn + 1))) (kb : wr.cell? ⟨g, j + 1, none⟩ = some (.bool b1)) (kb0 : wr.cell? ⟨g, j, none⟩ = some (.bool b0)) (hfr : wr.frozen? ⟨g, j, none⟩ = false) (hb4 : b4 < wr.heap.size) (hg : g < wr.heap.size)
    (hcall : Calls Tryz.prog 41 #[.string p, .string q] wr.drew fun e w' => e = .returned (.bool m) ∧ Below wr.heap.size wr w')
    (hQ : ∀ x46 x47 x48 x49 x50 x51 x52 x53 x54 x55 x56 x57 x58 w0, Below wr.heap.size wr w0 → Q .normal ⟨(t0 :: t1 :: t2 :: t3 :: t4 :: t5 :: (.pointer (some ⟨b4, 0, none⟩) : Value) :: t7 :: (.string p : Value) :: (.int .i64 (j : Int) : Value) :: (.string q : Value) :: t11 :: t12 :: t13 :: t14 :: t15 :: t16 :: t17 :: t18 :: t19 :: t20 :: t21 :: t22 :: t23 :: t24 :: t25 :: t26 :: t27 :: t28 :: t29 :: t30 :: t31 :: t32 :: t33 :: t34 :: t35 :: t36 :: t37 :: t38 :: t39 :: t40 :: t41 :: t42 :: t43 :: t44 :: t45 :: x46 :: x47 :: x48 :: x49 :: x50 :: x51 :: x52 :: x53 :: x54 :: x55 :: x56 :: x57 :: x58 :: t59 :: t60 :: t61 :: t62 :: t63 :: t64 :: t65 :: []).toArray, []⟩ (w0.setCell ⟨g, j, none⟩ (.bool (b1 && m)))) :
    (Code.region 14 ops14 true).wpIn (Fence.wide.inRound l) 0 Tryz.prog Q ⟨(t0 :: t1 :: t2 :: t3 :: t4 :: t5 :: (.pointer (some ⟨b4, 0, none⟩) : Value) :: t7 :: (.string p : Value) :: (.int .i64 (j : Int) : Value) :: (.string q : Value) :: t11 :: t12 :: t13 :: t14 :: t15 :: t16 :: t17 :: t18 :: t19 :: t20 :: t21 :: t22 :: t23 :: t24 :: t25 :: t26 :: t27 :: t28 :: t29 :: t30 :: t31 :: t32 :: t33 :: t34 :: t35 :: t36 :: t37 :: t38 :: t39 :: t40 :: t41 :: t42 :: t43 :: t44 :: t45 :: t46 :: t47 :: t48 :: t49 :: t50 :: t51 :: t52 :: t53 :: t54 :: t55 :: t56 :: t57 :: t58 :: t59 :: t60 :: t61 :: t62 :: t63 :: t64 :: t65 :: []).toArray, []⟩ wr := by
  unfold ops14
  have hwr : IntKind.i64.wrap ((j : Int) + 1) = (j : Int) + 1 := by rw [IntKind.wrap_i64]; omega
  have hj0 : (0 : Int) ≤ (j : Int) + 1 := by omega
  have hj0' : (0 : Int) ≤ (j : Int) := by omega
  have hj1 : (j : Int) + 1 < (nn : Int) + 1 := by omega
  have hj2 : (j : Int) < (nn : Int) + 1 := by omega
  have hjn : ((j : Int) + 1).toNat = j + 1 := by omega
  have hbd : Below wr.heap.size wr wr.drew := (Below.refl _ _).drew
  refine wpIn_region_any (by kernel_rfl) (wpAnyIn_inv (I := R14 (fun x46 x47 x48 x49 x50 x51 x52 x53 x54 x55 x56 x57 x58 => (t0 :: t1 :: t2 :: t3 :: t4 :: t5 :: (.pointer (some ⟨b4, 0, none⟩) : Value) :: t7 :: (.string p : Value) :: (.int .i64 (j : Int) : Value) :: (.string q : Value) :: t11 :: t12 :: t13 :: t14 :: t15 :: t16 :: t17 :: t18 :: t19 :: t20 :: t21 :: t22 :: t23 :: t24 :: t25 :: t26 :: t27 :: t28 :: t29 :: t30 :: t31 :: t32 :: t33 :: t34 :: t35 :: t36 :: t37 :: t38 :: t39 :: t40 :: t41 :: t42 :: t43 :: t44 :: t45 :: x46 :: x47 :: x48 :: x49 :: x50 :: x51 :: x52 :: x53 :: x54 :: x55 :: x56 :: x57 :: x58 :: t59 :: t60 :: t61 :: t62 :: t63 :: t64 :: t65 :: []).toArray) g nn j p q b1 m wr) ?hend ?hstep _ _ _ _ ?hu ?hinit)
  case hu => exact Nat.le_refl _
  case hinit =>
    exact ⟨rfl, ⟨t46, t47, t48, t49, t50, t51, t52, t53, t54, t55, t56, t57, t58, rfl, fun h => by (rw [fl_none] at h; cases h), fun h => by (rw [fl_none] at h; cases h), fun h => by (rw [fl_none] at h; cases h), fun h => by (rw [fl_none] at h; cases h), fun h => by (rw [fl_none] at h; cases h), fun h => by (rw [fl_none] at h; cases h), fun h => by (rw [fl_none] at h; cases h), fun h => by (rw [fl_none] at h; cases h), fun h _ => by (rw [fl_none] at h; cases h), fun h _ => by (rw [fl_none] at h; cases h), fun h _ => by (rw [fl_none] at h; cases h), fun h => by (rw [fl_none] at h; cases h), fun h => by (rw [fl_none] at h; cases h)⟩, .inl ⟨fl_none _ _, hbd, fun _ => rfl⟩⟩
  case hend =>
    intro listed a' w' hI hr
    have hall := all_listed' (ops := _) hI.size hr (after_ok' (by kernel_rfl))
    have h13 : fl listed 13 = true := hall 13 (by decide)
    obtain ⟨x46, x47, x48, x49, x50, x51, x52, x53, x54, x55, x56, x57, x58, rfl, _⟩ := hI.slots
    rcases hI.world with ⟨h, _⟩ | ⟨_, _, w0, hb, rfl⟩
    · rw [h13] at h; cases h
    · exact hQ x46 x47 x48 x49 x50 x51 x52 x53 x54 x55 x56 x57 x58 w0 hb
  case hstep =>
    intro listed a' w' i o hI ho hi hdep K' hK
    have hlt : i < 14 := (Array.getElem?_eq_some_iff.1 ho).1
    have hls := hI.size
    have hsz' : (listed.setIfInBounds i true).size = 14 := by rw [Array.size_setIfInBounds]; exact hls
    have hwo := hI.world
    obtain ⟨x46, x47, x48, x49, x50, x51, x52, x53, x54, x55, x56, x57, x58, rfl, c0, c1, c2, c3, c4, c5, c6, c7, c8, c9, c10, c11, c12⟩ := hI.slots
    have hph : i < 13 → fl listed 13 = false ∧ Below wr.heap.size wr w' ∧ (fl listed 10 = false → w' = wr.drew) := by
      intro h
      rcases hwo with h1 | ⟨_, h2, _⟩
      · exact h1
      · have := h2 i h
        rw [fl_not hi] at this
        cases this
    have hwk : i < 13 → i ≠ 10 → (fl (listed.setIfInBounds i true) 13 = false ∧ Below wr.heap.size wr w' ∧ (fl (listed.setIfInBounds i true) 10 = false → w' = wr.drew)) := by
      intro h h10
      obtain ⟨a1, a2, a3⟩ := hph h
      exact ⟨by rw [fl_ne (by omega)]; exact a1, a2, fun h => a3 (by rwa [fl_ne (by omega)] at h)⟩
    match i, hlt with
    | 0, _ =>
      obtain rfl := Option.some.inj ho
      obtain ⟨p1, p2, p3⟩ := hph (by decide)
      have k4 := (p2.cell (p := ⟨b4, 0, none⟩) hb4).trans cb4
      refine st_valIn (v := .slice (some ⟨g, 0, none⟩) (nn + 1) (nn + 1)) (w' := w') rfl (fun _ h => by cases h) ?_ (hK _ _ ⟨hsz', ⟨.slice (some ⟨g, 0, none⟩) (nn + 1) (nn + 1), x47, x48, x49, x50, x51, x52, x53, x54, x55, x56, x57, x58, rfl, fun _ => rfl, fun h => c1 (by rwa [fl_ne (by decide)] at h), fun h => c2 (by rwa [fl_ne (by decide)] at h), fun h => c3 (by rwa [fl_ne (by decide)] at h), fun h => c4 (by rwa [fl_ne (by decide)] at h), fun h => c5 (by rwa [fl_ne (by decide)] at h), fun h => c6 (by rwa [fl_ne (by decide)] at h), fun h => c7 (by rwa [fl_ne (by decide)] at h), fun h hb => c8 (by rwa [fl_ne (by decide)] at h) hb, fun h hb => c9 (by rwa [fl_ne (by decide)] at h) hb, fun h hb => c10 (by rwa [fl_ne (by decide)] at h) hb, fun h => c11 (by rwa [fl_ne (by decide)] at h), fun h => c12 (by rwa [fl_ne (by decide)] at h)⟩, .inl (hwk (by decide) (by decide))⟩)
      simp [execOp, go_sem, Result.andThen, k4]
    | 1, _ =>
      obtain rfl := Option.some.inj ho
      obtain ⟨p1, p2, p3⟩ := hph (by decide)
      refine st_valIn (v := .int .i64 (j : Int)) (w' := w') rfl (fun _ h => by cases h) ?_ (hK _ _ ⟨hsz', ⟨x46, .int .i64 (j : Int), x48, x49, x50, x51, x52, x53, x54, x55, x56, x57, x58, rfl, fun h => c0 (by rwa [fl_ne (by decide)] at h), fun _ => rfl, fun h => c2 (by rwa [fl_ne (by decide)] at h), fun h => c3 (by rwa [fl_ne (by decide)] at h), fun h => c4 (by rwa [fl_ne (by decide)] at h), fun h => c5 (by rwa [fl_ne (by decide)] at h), fun h => c6 (by rwa [fl_ne (by decide)] at h), fun h => c7 (by rwa [fl_ne (by decide)] at h), fun h hb => c8 (by rwa [fl_ne (by decide)] at h) hb, fun h hb => c9 (by rwa [fl_ne (by decide)] at h) hb, fun h hb => c10 (by rwa [fl_ne (by decide)] at h) hb, fun h => c11 (by rwa [fl_ne (by decide)] at h), fun h => c12 (by rwa [fl_ne (by decide)] at h)⟩, .inl (hwk (by decide) (by decide))⟩)
      simp [execOp, go_sem]
    | 2, _ =>
      obtain rfl := Option.some.inj ho
      obtain ⟨p1, p2, p3⟩ := hph (by decide)
      have k4 := (p2.cell (p := ⟨b4, 0, none⟩) hb4).trans cb4
      refine st_valIn (v := .slice (some ⟨g, 0, none⟩) (nn + 1) (nn + 1)) (w' := w') rfl (fun _ h => by cases h) ?_ (hK _ _ ⟨hsz', ⟨x46, x47, .slice (some ⟨g, 0, none⟩) (nn + 1) (nn + 1), x49, x50, x51, x52, x53, x54, x55, x56, x57, x58, rfl, fun h => c0 (by rwa [fl_ne (by decide)] at h), fun h => c1 (by rwa [fl_ne (by decide)] at h), fun _ => rfl, fun h => c3 (by rwa [fl_ne (by decide)] at h), fun h => c4 (by rwa [fl_ne (by decide)] at h), fun h => c5 (by rwa [fl_ne (by decide)] at h), fun h => c6 (by rwa [fl_ne (by decide)] at h), fun h => c7 (by rwa [fl_ne (by decide)] at h), fun h hb => c8 (by rwa [fl_ne (by decide)] at h) hb, fun h hb => c9 (by rwa [fl_ne (by decide)] at h) hb, fun h hb => c10 (by rwa [fl_ne (by decide)] at h) hb, fun h => c11 (by rwa [fl_ne (by decide)] at h), fun h => c12 (by rwa [fl_ne (by decide)] at h)⟩, .inl (hwk (by decide) (by decide))⟩)
      simp [execOp, go_sem, Result.andThen, k4]
    | 3, _ =>
      obtain rfl := Option.some.inj ho
      obtain ⟨p1, p2, p3⟩ := hph (by decide)
      refine st_valIn (v := .int .i64 (j : Int)) (w' := w') rfl (fun _ h => by cases h) ?_ (hK _ _ ⟨hsz', ⟨x46, x47, x48, .int .i64 (j : Int), x50, x51, x52, x53, x54, x55, x56, x57, x58, rfl, fun h => c0 (by rwa [fl_ne (by decide)] at h), fun h => c1 (by rwa [fl_ne (by decide)] at h), fun h => c2 (by rwa [fl_ne (by decide)] at h), fun _ => rfl, fun h => c4 (by rwa [fl_ne (by decide)] at h), fun h => c5 (by rwa [fl_ne (by decide)] at h), fun h => c6 (by rwa [fl_ne (by decide)] at h), fun h => c7 (by rwa [fl_ne (by decide)] at h), fun h hb => c8 (by rwa [fl_ne (by decide)] at h) hb, fun h hb => c9 (by rwa [fl_ne (by decide)] at h) hb, fun h hb => c10 (by rwa [fl_ne (by decide)] at h) hb, fun h => c11 (by rwa [fl_ne (by decide)] at h), fun h => c12 (by rwa [fl_ne (by decide)] at h)⟩, .inl (hwk (by decide) (by decide))⟩)
      simp [execOp, go_sem]
    | 4, _ =>
      obtain rfl := Option.some.inj ho
      obtain ⟨p1, p2, p3⟩ := hph (by decide)
      have e3 := c3 (hdep ⟨3, .data⟩ (by simp) rfl)
      refine st_valIn (v := .int .i64 ((j : Int) + 1)) (w' := w') rfl (fun _ h => by cases h) ?_ (hK _ _ ⟨hsz', ⟨x46, x47, x48, x49, .int .i64 ((j : Int) + 1), x51, x52, x53, x54, x55, x56, x57, x58, rfl, fun h => c0 (by rwa [fl_ne (by decide)] at h), fun h => c1 (by rwa [fl_ne (by decide)] at h), fun h => c2 (by rwa [fl_ne (by decide)] at h), fun h => c3 (by rwa [fl_ne (by decide)] at h), fun _ => rfl, fun h => c5 (by rwa [fl_ne (by decide)] at h), fun h => c6 (by rwa [fl_ne (by decide)] at h), fun h => c7 (by rwa [fl_ne (by decide)] at h), fun h hb => c8 (by rwa [fl_ne (by decide)] at h) hb, fun h hb => c9 (by rwa [fl_ne (by decide)] at h) hb, fun h hb => c10 (by rwa [fl_ne (by decide)] at h) hb, fun h => c11 (by rwa [fl_ne (by decide)] at h), fun h => c12 (by rwa [fl_ne (by decide)] at h)⟩, .inl (hwk (by decide) (by decide))⟩)
      simp [execOp, go_sem, e3, hwr]
    | 5, _ =>
      obtain rfl := Option.some.inj ho
      obtain ⟨p1, p2, p3⟩ := hph (by decide)
      have e2 := c2 (hdep ⟨2, .data⟩ (by simp) rfl)
      have e4 := c4 (hdep ⟨4, .data⟩ (by simp) rfl)
      refine st_valIn (v := .pointer (some ⟨g, j + 1, none⟩)) (w' := w') rfl (fun _ h => by cases h) ?_ (hK _ _ ⟨hsz', ⟨x46, x47, x48, x49, x50, .pointer (some ⟨g, j + 1, none⟩), x52, x53, x54, x55, x56, x57, x58, rfl, fun h => c0 (by rwa [fl_ne (by decide)] at h), fun h => c1 (by rwa [fl_ne (by decide)] at h), fun h => c2 (by rwa [fl_ne (by decide)] at h), fun h => c3 (by rwa [fl_ne (by decide)] at h), fun h => c4 (by rwa [fl_ne (by decide)] at h), fun _ => rfl, fun h => c6 (by rwa [fl_ne (by decide)] at h), fun h => c7 (by rwa [fl_ne (by decide)] at h), fun h hb => c8 (by rwa [fl_ne (by decide)] at h) hb, fun h hb => c9 (by rwa [fl_ne (by decide)] at h) hb, fun h hb => c10 (by rwa [fl_ne (by decide)] at h) hb, fun h => c11 (by rwa [fl_ne (by decide)] at h), fun h => c12 (by rwa [fl_ne (by decide)] at h)⟩, .inl (hwk (by decide) (by decide))⟩)
      simp [execOp, go_sem, Result.andThen, e2, e4, hj0, hj1, hjn]
    | 6, _ =>
      obtain rfl := Option.some.inj ho
      obtain ⟨p1, p2, p3⟩ := hph (by decide)
      have k1 := (p2.cell (p := ⟨g, j + 1, none⟩) hg).trans kb
      have e5 := c5 (hdep ⟨5, .data⟩ (by simp) rfl)
      refine st_valIn (v := .bool b1) (w' := w') rfl (fun _ h => by cases h) ?_ (hK _ _ ⟨hsz', ⟨x46, x47, x48, x49, x50, x51, .bool b1, x53, x54, x55, x56, x57, x58, rfl, fun h => c0 (by rwa [fl_ne (by decide)] at h), fun h => c1 (by rwa [fl_ne (by decide)] at h), fun h => c2 (by rwa [fl_ne (by decide)] at h), fun h => c3 (by rwa [fl_ne (by decide)] at h), fun h => c4 (by rwa [fl_ne (by decide)] at h), fun h => c5 (by rwa [fl_ne (by decide)] at h), fun _ => rfl, fun h => c7 (by rwa [fl_ne (by decide)] at h), fun h hb => c8 (by rwa [fl_ne (by decide)] at h) hb, fun h hb => c9 (by rwa [fl_ne (by decide)] at h) hb, fun h hb => c10 (by rwa [fl_ne (by decide)] at h) hb, fun h => c11 (by rwa [fl_ne (by decide)] at h), fun h => c12 (by rwa [fl_ne (by decide)] at h)⟩, .inl (hwk (by decide) (by decide))⟩)
      simp [execOp, go_sem, Result.andThen, e5, k1]
    | 7, _ =>
      obtain rfl := Option.some.inj ho
      obtain ⟨p1, p2, p3⟩ := hph (by decide)
      have e6 := c6 (hdep ⟨6, .data⟩ (by simp) rfl)
      refine st_valIn (v := .bool b1) (w' := w') rfl (fun _ h => by cases h) ?_ (hK _ _ ⟨hsz', ⟨x46, x47, x48, x49, x50, x51, x52, .bool b1, x54, x55, x56, x57, x58, rfl, fun h => c0 (by rwa [fl_ne (by decide)] at h), fun h => c1 (by rwa [fl_ne (by decide)] at h), fun h => c2 (by rwa [fl_ne (by decide)] at h), fun h => c3 (by rwa [fl_ne (by decide)] at h), fun h => c4 (by rwa [fl_ne (by decide)] at h), fun h => c5 (by rwa [fl_ne (by decide)] at h), fun h => c6 (by rwa [fl_ne (by decide)] at h), fun _ => rfl, fun h hb => c8 (by rwa [fl_ne (by decide)] at h) hb, fun h hb => c9 (by rwa [fl_ne (by decide)] at h) hb, fun h hb => c10 (by rwa [fl_ne (by decide)] at h) hb, fun h => c11 (by rwa [fl_ne (by decide)] at h), fun h => c12 (by rwa [fl_ne (by decide)] at h)⟩, .inl (hwk (by decide) (by decide))⟩)
      simp [execOp, go_sem, e6]
    | 8, _ =>
      obtain rfl := Option.some.inj ho
      obtain ⟨p1, p2, p3⟩ := hph (by decide)
      have e7 := c7 (hdep ⟨7, .guard⟩ (by simp) rfl)
      subst e7
      cases b1 with
      | false => exact st_offIn rfl (hK _ _ ⟨hsz', ⟨x46, x47, x48, x49, x50, x51, x52, .bool false, undef, x55, x56, x57, x58, rfl, fun h => c0 (by rwa [fl_ne (by decide)] at h), fun h => c1 (by rwa [fl_ne (by decide)] at h), fun h => c2 (by rwa [fl_ne (by decide)] at h), fun h => c3 (by rwa [fl_ne (by decide)] at h), fun h => c4 (by rwa [fl_ne (by decide)] at h), fun h => c5 (by rwa [fl_ne (by decide)] at h), fun h => c6 (by rwa [fl_ne (by decide)] at h), fun h => c7 (by rwa [fl_ne (by decide)] at h), fun _ hb => (by cases hb), fun h hb => c9 (by rwa [fl_ne (by decide)] at h) hb, fun h hb => c10 (by rwa [fl_ne (by decide)] at h) hb, fun h => c11 (by rwa [fl_ne (by decide)] at h), fun h => c12 (by rwa [fl_ne (by decide)] at h)⟩, .inl (hwk (by decide) (by decide))⟩)
      | true =>
        refine st_onIn (v := .string p) (w' := w') rfl (fun _ h => by cases h) ?_ (hK _ _ ⟨hsz', ⟨x46, x47, x48, x49, x50, x51, x52, .bool true, .string p, x55, x56, x57, x58, rfl, fun h => c0 (by rwa [fl_ne (by decide)] at h), fun h => c1 (by rwa [fl_ne (by decide)] at h), fun h => c2 (by rwa [fl_ne (by decide)] at h), fun h => c3 (by rwa [fl_ne (by decide)] at h), fun h => c4 (by rwa [fl_ne (by decide)] at h), fun h => c5 (by rwa [fl_ne (by decide)] at h), fun h => c6 (by rwa [fl_ne (by decide)] at h), fun h => c7 (by rwa [fl_ne (by decide)] at h), fun _ _ => rfl, fun h hb => c9 (by rwa [fl_ne (by decide)] at h) hb, fun h hb => c10 (by rwa [fl_ne (by decide)] at h) hb, fun h => c11 (by rwa [fl_ne (by decide)] at h), fun h => c12 (by rwa [fl_ne (by decide)] at h)⟩, .inl (hwk (by decide) (by decide))⟩)
        simp [execOp, go_sem]
    | 9, _ =>
      obtain rfl := Option.some.inj ho
      obtain ⟨p1, p2, p3⟩ := hph (by decide)
      have e7 := c7 (hdep ⟨7, .guard⟩ (by simp) rfl)
      subst e7
      cases b1 with
      | false => exact st_offIn rfl (hK _ _ ⟨hsz', ⟨x46, x47, x48, x49, x50, x51, x52, .bool false, x54, undef, x56, x57, x58, rfl, fun h => c0 (by rwa [fl_ne (by decide)] at h), fun h => c1 (by rwa [fl_ne (by decide)] at h), fun h => c2 (by rwa [fl_ne (by decide)] at h), fun h => c3 (by rwa [fl_ne (by decide)] at h), fun h => c4 (by rwa [fl_ne (by decide)] at h), fun h => c5 (by rwa [fl_ne (by decide)] at h), fun h => c6 (by rwa [fl_ne (by decide)] at h), fun h => c7 (by rwa [fl_ne (by decide)] at h), fun h hb => c8 (by rwa [fl_ne (by decide)] at h) hb, fun _ hb => (by cases hb), fun h hb => c10 (by rwa [fl_ne (by decide)] at h) hb, fun h => c11 (by rwa [fl_ne (by decide)] at h), fun h => c12 (by rwa [fl_ne (by decide)] at h)⟩, .inl (hwk (by decide) (by decide))⟩)
      | true =>
        refine st_onIn (v := .string q) (w' := w') rfl (fun _ h => by cases h) ?_ (hK _ _ ⟨hsz', ⟨x46, x47, x48, x49, x50, x51, x52, .bool true, x54, .string q, x56, x57, x58, rfl, fun h => c0 (by rwa [fl_ne (by decide)] at h), fun h => c1 (by rwa [fl_ne (by decide)] at h), fun h => c2 (by rwa [fl_ne (by decide)] at h), fun h => c3 (by rwa [fl_ne (by decide)] at h), fun h => c4 (by rwa [fl_ne (by decide)] at h), fun h => c5 (by rwa [fl_ne (by decide)] at h), fun h => c6 (by rwa [fl_ne (by decide)] at h), fun h => c7 (by rwa [fl_ne (by decide)] at h), fun h hb => c8 (by rwa [fl_ne (by decide)] at h) hb, fun _ _ => rfl, fun h hb => c10 (by rwa [fl_ne (by decide)] at h) hb, fun h => c11 (by rwa [fl_ne (by decide)] at h), fun h => c12 (by rwa [fl_ne (by decide)] at h)⟩, .inl (hwk (by decide) (by decide))⟩)
        simp [execOp, go_sem]
    | 10, _ =>
      obtain rfl := Option.some.inj ho
      obtain ⟨p1, p2, p3⟩ := hph (by decide)
      have e7 := c7 (hdep ⟨7, .guard⟩ (by simp) rfl)
      have f8 := hdep ⟨8, .data⟩ (by simp) rfl
      have f9 := hdep ⟨9, .data⟩ (by simp) rfl
      subst e7
      have p4 := p3 (fl_not hi)
      subst p4
      have hl10 : fl (listed.setIfInBounds 10 true) 10 = true := fl_self (by omega)
      have hl13 : fl (listed.setIfInBounds 10 true) 13 = false := by rw [fl_ne (by decide)]; exact p1
      cases b1 with
      | false => exact st_offIn rfl (hK _ _ ⟨hsz', ⟨x46, x47, x48, x49, x50, x51, x52, .bool false, x54, x55, undef, x57, x58, rfl, fun h => c0 (by rwa [fl_ne (by decide)] at h), fun h => c1 (by rwa [fl_ne (by decide)] at h), fun h => c2 (by rwa [fl_ne (by decide)] at h), fun h => c3 (by rwa [fl_ne (by decide)] at h), fun h => c4 (by rwa [fl_ne (by decide)] at h), fun h => c5 (by rwa [fl_ne (by decide)] at h), fun h => c6 (by rwa [fl_ne (by decide)] at h), fun h => c7 (by rwa [fl_ne (by decide)] at h), fun h hb => c8 (by rwa [fl_ne (by decide)] at h) hb, fun h hb => c9 (by rwa [fl_ne (by decide)] at h) hb, fun _ hb => (by cases hb), fun h => c11 (by rwa [fl_ne (by decide)] at h), fun h => c12 (by rwa [fl_ne (by decide)] at h)⟩, .inl ⟨hl13, p2, fun h => absurd (hl10.symm.trans h) (by decide)⟩⟩)
      | true =>
        have e8 := c8 f8 rfl
        have e9 := c9 f9 rfl
        subst e8
        subst e9
        refine st_callIn (f := 41) (args := #[.string p, .string q]) rfl (fun _ h => by cases h) ?_ hcall ?_
        · simp [execOp, go_sem, resolve, invoke]
        · rintro e w'' ⟨rfl, hb⟩
          exact ⟨_, rfl, hK _ _ ⟨hsz', ⟨x46, x47, x48, x49, x50, x51, x52, .bool true, .string p, .string q, .bool m, x57, x58, rfl, fun h => c0 (by rwa [fl_ne (by decide)] at h), fun h => c1 (by rwa [fl_ne (by decide)] at h), fun h => c2 (by rwa [fl_ne (by decide)] at h), fun h => c3 (by rwa [fl_ne (by decide)] at h), fun h => c4 (by rwa [fl_ne (by decide)] at h), fun h => c5 (by rwa [fl_ne (by decide)] at h), fun h => c6 (by rwa [fl_ne (by decide)] at h), fun h => c7 (by rwa [fl_ne (by decide)] at h), fun h hb => c8 (by rwa [fl_ne (by decide)] at h) hb, fun h hb => c9 (by rwa [fl_ne (by decide)] at h) hb, fun _ _ => rfl, fun h => c11 (by rwa [fl_ne (by decide)] at h), fun h => c12 (by rwa [fl_ne (by decide)] at h)⟩, .inl ⟨hl13, hb, fun h => absurd (hl10.symm.trans h) (by decide)⟩⟩⟩
    | 11, _ =>
      obtain rfl := Option.some.inj ho
      obtain ⟨p1, p2, p3⟩ := hph (by decide)
      have e7 := c7 (hdep ⟨7, .data⟩ (by simp) rfl)
      have e7 := c7 (hdep ⟨7, .data⟩ (by simp) rfl)
      have f10 := hdep ⟨10, .data⟩ (by simp) rfl
      refine st_valIn (v := .bool (b1 && m)) (w' := w') rfl (fun _ h => by cases h) ?_ (hK _ _ ⟨hsz', ⟨x46, x47, x48, x49, x50, x51, x52, x53, x54, x55, x56, .bool (b1 && m), x58, rfl, fun h => c0 (by rwa [fl_ne (by decide)] at h), fun h => c1 (by rwa [fl_ne (by decide)] at h), fun h => c2 (by rwa [fl_ne (by decide)] at h), fun h => c3 (by rwa [fl_ne (by decide)] at h), fun h => c4 (by rwa [fl_ne (by decide)] at h), fun h => c5 (by rwa [fl_ne (by decide)] at h), fun h => c6 (by rwa [fl_ne (by decide)] at h), fun h => c7 (by rwa [fl_ne (by decide)] at h), fun h hb => c8 (by rwa [fl_ne (by decide)] at h) hb, fun h hb => c9 (by rwa [fl_ne (by decide)] at h) hb, fun h hb => c10 (by rwa [fl_ne (by decide)] at h) hb, fun _ => rfl, fun h => c12 (by rwa [fl_ne (by decide)] at h)⟩, .inl (hwk (by decide) (by decide))⟩)
      cases b1 with
      | false => simp [execOp, go_sem, e7]
      | true =>
        have e10 := c10 f10 rfl
        simp [execOp, go_sem, e7, e10]
    | 12, _ =>
      obtain rfl := Option.some.inj ho
      obtain ⟨p1, p2, p3⟩ := hph (by decide)
      have e0 := c0 (hdep ⟨0, .data⟩ (by simp) rfl)
      have e1 := c1 (hdep ⟨1, .data⟩ (by simp) rfl)
      refine st_valIn (v := .pointer (some ⟨g, j, none⟩)) (w' := w') rfl (fun _ h => by cases h) ?_ (hK _ _ ⟨hsz', ⟨x46, x47, x48, x49, x50, x51, x52, x53, x54, x55, x56, x57, .pointer (some ⟨g, j, none⟩), rfl, fun h => c0 (by rwa [fl_ne (by decide)] at h), fun h => c1 (by rwa [fl_ne (by decide)] at h), fun h => c2 (by rwa [fl_ne (by decide)] at h), fun h => c3 (by rwa [fl_ne (by decide)] at h), fun h => c4 (by rwa [fl_ne (by decide)] at h), fun h => c5 (by rwa [fl_ne (by decide)] at h), fun h => c6 (by rwa [fl_ne (by decide)] at h), fun h => c7 (by rwa [fl_ne (by decide)] at h), fun h hb => c8 (by rwa [fl_ne (by decide)] at h) hb, fun h hb => c9 (by rwa [fl_ne (by decide)] at h) hb, fun h hb => c10 (by rwa [fl_ne (by decide)] at h) hb, fun h => c11 (by rwa [fl_ne (by decide)] at h), fun _ => rfl⟩, .inl (hwk (by decide) (by decide))⟩)
      simp [execOp, go_sem, Result.andThen, e0, e1, hj0', hj2]
    | 13, _ =>
      obtain rfl := Option.some.inj ho
      have e11 := c11 (hdep ⟨11, .data⟩ (by simp) rfl)
      have e12 := c12 (hdep ⟨12, .data⟩ (by simp) rfl)
      have f10 := hdep ⟨10, .chain⟩ (by simp) rfl
      have hall : ∀ i, i < 13 → fl listed i = true := by
        intro i h
        match i, h with
        | 0, _ => exact hdep ⟨0, .phase⟩ (by simp) rfl
        | 1, _ => exact hdep ⟨1, .phase⟩ (by simp) rfl
        | 2, _ => exact hdep ⟨2, .phase⟩ (by simp) rfl
        | 3, _ => exact hdep ⟨3, .phase⟩ (by simp) rfl
        | 4, _ => exact hdep ⟨4, .phase⟩ (by simp) rfl
        | 5, _ => exact hdep ⟨5, .phase⟩ (by simp) rfl
        | 6, _ => exact hdep ⟨6, .phase⟩ (by simp) rfl
        | 7, _ => exact hdep ⟨7, .phase⟩ (by simp) rfl
        | 8, _ => exact hdep ⟨8, .phase⟩ (by simp) rfl
        | 9, _ => exact hdep ⟨9, .phase⟩ (by simp) rfl
        | 10, _ => exact f10
        | 11, _ => exact hdep ⟨11, .data⟩ (by simp) rfl
        | 12, _ => exact hdep ⟨12, .data⟩ (by simp) rfl
      rcases hwo with ⟨p1, p2, p3⟩ | ⟨h, _⟩
      · have k0 := (p2.cell (p := ⟨g, j, none⟩) hg).trans kb0
        have kf : w'.frozen? ⟨g, j, none⟩ = false := by
          unfold World.frozen? at hfr ⊢
          rw [p2.block g hg]
          exact hfr
        refine st_skpIn (w' := w'.setCell ⟨g, j, none⟩ (.bool (b1 && m))) rfl (fun _ h => by cases h) ?_ (hK _ _ ⟨hsz', ⟨x46, x47, x48, x49, x50, x51, x52, x53, x54, x55, x56, x57, x58, rfl, fun h => c0 (by rwa [fl_ne (by decide)] at h), fun h => c1 (by rwa [fl_ne (by decide)] at h), fun h => c2 (by rwa [fl_ne (by decide)] at h), fun h => c3 (by rwa [fl_ne (by decide)] at h), fun h => c4 (by rwa [fl_ne (by decide)] at h), fun h => c5 (by rwa [fl_ne (by decide)] at h), fun h => c6 (by rwa [fl_ne (by decide)] at h), fun h => c7 (by rwa [fl_ne (by decide)] at h), fun h hb => c8 (by rwa [fl_ne (by decide)] at h) hb, fun h hb => c9 (by rwa [fl_ne (by decide)] at h) hb, fun h hb => c10 (by rwa [fl_ne (by decide)] at h) hb, fun h => c11 (by rwa [fl_ne (by decide)] at h), fun h => c12 (by rwa [fl_ne (by decide)] at h)⟩, .inr ⟨fl_self (by omega), fun i h => by rw [fl_ne (by omega)]; exact hall i h, w', p2, rfl⟩⟩)
        simp [execOp, go_sem, Result.andThen, e11, e12, k0, kf]
      · rw [fl_not hi] at h; cases h
end Go.Proofs.YtjbdoeoimodhkaaGreatDoor.Rg
/- rowMeans, over whatever tells of a part and a name. -/
namespace Go.Proofs.YtjbdoeoimodhkaaGreatDoor
open Go.RowKit Go.Shelf
attribute [local go_sem] Oper.semAt_some

def litL (Mn : ByteArray → ByteArray → Bool) (p : ByteArray) (parts : List ByteArray) (rest : List Bool) : List Bool := List.zipWith (fun b q => b && Mn p q) rest.tail parts ++ [false]
theorem litL_length {Mn : ByteArray → ByteArray → Bool} {p : ByteArray} {parts : List ByteArray} {rest : List Bool} (h : rest.length = parts.length + 1) : (litL Mn p parts rest).length = parts.length + 1 := by
  simp [litL, h]
def stepR (Mn : ByteArray → ByteArray → Bool) (n : Nat) (parts : List ByteArray) (k : Nat) (p : ByteArray) (rest : List Bool) : List Bool :=
  if (p.toList == [42, 42]) = true then (if 0 < k ∧ k = n - 1 then (anyL rest).set parts.length false else anyL rest) else litL Mn p parts rest
theorem stepR_length {Mn : ByteArray → ByteArray → Bool} {n k : Nat} {p : ByteArray} {parts : List ByteArray} {rest : List Bool} (h : rest.length = parts.length + 1) : (stepR Mn n parts k p rest).length = parts.length + 1 := by
  unfold stepR
  split
  · split
    · rw [List.length_set, anyL_length, h]
    · rw [anyL_length, h]
  · exact litL_length h
def restR (Mn : ByteArray → ByteArray → Bool) (n : Nat) (parts : List ByteArray) : Nat → List ByteArray → List Bool
  | _, [] => List.replicate parts.length false ++ [true]
  | k, p :: ps => stepR Mn n parts k p (restR Mn n parts (k + 1) ps)
theorem restR_length (Mn : ByteArray → ByteArray → Bool) (n : Nat) (parts : List ByteArray) : ∀ (ps : List ByteArray) (k : Nat), (restR Mn n parts k ps).length = parts.length + 1 := by
  intro ps
  induction ps with
  | nil => intro k; simp [restR]
  | cons p ps ih => intro k; exact stepR_length (ih _)
def rowD (Mn : ByteArray → ByteArray → Bool) (pat parts : List ByteArray) : Bool := (restR Mn pat.length parts 0 pat).headD false

theorem backS_any (a : Option Addr) (n c : Nat) (w : World) : Calls Tryz.prog 62 #[.slice a n c] w fun e w' => e = .returned (.func (.func 85) #[] #[.pointer (some ⟨w.heap.size, 0, none⟩)]) ∧ w' = w.alloc (.cells #[.slice a n c] 32) := by
  go_enter Tryz.func62, Tryz.ntmps62
  go_wp2
  go_ret
  exact ⟨rfl, rfl⟩
theorem Tryz.infoB : (Tryz.prog.info? 4).map (fun i => (i.zero, i.size, i.bytes)) = some (some (.bool false), 1, 1) := by kernel_rfl
theorem Tryz.underlying109' : Tryz.prog.underlying 109 = some (.slice 4) := by kernel_rfl
/-- What is asked of the one that tells. -/
structure Teller (Gd : World → Prop) (Mn : ByteArray → ByteArray → Bool) : Prop where
  big : ∀ A, Gd A → 10 ≤ A.heap.size
  keep : ∀ A A', Gd A → Below 10 A A' → Gd A'
  tell : ∀ p q w, q.size ≤ 1000000 → Gd w → Calls Tryz.prog 41 #[.string p, .string q] w fun e w' => e = .returned (.bool (Mn p q)) ∧ Below w.heap.size w w'
/-- The world within rowMeans. -/
structure RmI (Gd : World → Prop) (w : World) (va vb : Value) (parts : List ByteArray) (n0 : Nat) (rest : List Bool) (C : Nat → Prop) (A : World) : Prop where
  cs : ∀ k, C k ↔ k = n0 + 3
  b0 : Boxed A n0 32 va
  b1 : Boxed A (n0 + 1) 32 vb
  b2 : Boxed A (n0 + 2) 3 (.int .i64 (parts.length : Int))
  b4 : Boxed A (n0 + 4) 109 (.slice (some ⟨n0 + 3, 0, none⟩) (parts.length + 1) (parts.length + 1))
  row : BRow A (n0 + 3) rest
  bel : Below n0 w A
  gd : Gd A
  size : n0 + 6 ≤ A.heap.size
theorem rmI_abide {Gd : World → Prop} {Mn : ByteArray → ByteArray → Bool} (hTl : Teller Gd Mn) {w : World} {va vb : Value} {parts : List ByteArray} {n0 N : Nat} {rest : List Bool} (hN : n0 + 6 ≤ N) (h10 : 10 ≤ n0) : Abide N (RmI Gd w va vb parts n0 rest) := by
  constructor
  · intro C A h k hk
    have := (h.cs k).1 hk
    have := h.size
    omega
  · intro C A A' h hk
    have hz := h.size
    have hb2 : Below (n0 + 6) A A' := ⟨hk.os, hk.tape, hk.output, hk.size, fun k hlt => hk.block k (by omega) (.inl (by omega))⟩
    exact ⟨h.cs, boxed_keepN h.b0 hk (by omega), boxed_keepN h.b1 hk (by omega), boxed_keepN h.b2 hk (by omega), boxed_keepN h.b4 hk (by omega), h.row.keepN hk (.inl (by omega)), h.bel.trans (hb2.mono (by omega)), hTl.keep _ _ h.gd (hb2.mono (by omega)), Nat.le_trans h.size hk.size⟩
theorem turn_below {C C' : Nat → Prop} {A A' : World} {D : Nat} (h : TurnC C C' A A') (hC : ∀ k, C k → D ≤ k) (hD : D ≤ A.heap.size) : Below D A A' :=
  ⟨h.os, h.tape, h.output, h.size, fun k hk => h.block k (by omega) (fun q => by have := hC k q; omega)⟩
theorem RmI.turn {Gd : World → Prop} {Mn : ByteArray → ByteArray → Bool} (hTl : Teller Gd Mn) {w : World} {va vb : Value} {parts : List ByteArray} {n0 : Nat} {rest rest' : List Bool} {C : Nat → Prop} {A A' : World} (h10 : 10 ≤ n0) (h : RmI Gd w va vb parts n0 rest C A) (ht : TurnC C C A A') (hr : BRow A' (n0 + 3) rest') : RmI Gd w va vb parts n0 rest' C A' := by
  have hz := h.size
  have hb : Below n0 A A' := turn_below ht (fun k q => by have := (h.cs k).1 q; omega) (by omega)
  have hn : ∀ j, j ≠ n0 + 3 → ¬ C j := fun j hj q => hj ((h.cs j).1 q)
  exact ⟨h.cs, boxed_turn ht h.b0 (hn _ (by omega)), boxed_turn ht h.b1 (hn _ (by omega)), boxed_turn ht h.b2 (hn _ (by omega)), boxed_turn ht h.b4 (hn _ (by omega)), hr, h.bel.trans hb, hTl.keep _ _ h.gd (hb.mono h10), Nat.le_trans hz ht.size⟩
set_option maxRecDepth 100000 in
set_option maxHeartbeats 8000000 in
theorem rowMeans_any (Gd : World → Prop) (Mn : ByteArray → ByteArray → Bool) (hTl : Teller Gd Mn) (aa ab : Option Addr) (ca cb D : Nat) (pat parts : List ByteArray) (w : World) (hG : Gd w) (hD : D ≤ w.heap.size) (hp : StrRow D w (.slice aa pat.length ca) pat) (hq : StrRow D w (.slice ab parts.length cb) parts) (hpl : pat.length ≤ 1000000) (hql : parts.length ≤ 999999) (hqs : ∀ q ∈ parts, q.size ≤ 1000000) :
    Calls Tryz.prog 44 #[.slice aa pat.length ca, .slice ab parts.length cb] w fun e w' => e = .returned (.bool (rowD Mn pat parts)) ∧ Below w.heap.size w w' := by
  obtain ⟨n0, hn0⟩ : ∃ n, w.heap.size = n := ⟨_, rfl⟩
  refine (callsIn_wide (n := 0)).1 ?_
  refine callsIn_of_wp_marks Tryz.func44 rfl trivial ?_ rfl
  simp only [Tryz.ntmps44, List.size_toArray, List.length_cons, List.length_nil, Nat.reduceAdd, Nat.reduceSub, Array.replicate_succ, Array.replicate_zero, List.push_toArray, List.append_toArray, List.nil_append, List.cons_append]
  obtain ⟨i0, hi, hz0, hz1, hz2⟩ := info_parts Tryz.infoB
  have hmk : ∀ W : World, (Instr.makeSlice 109 (.int .i64 ((parts.length : Int) + 1)) (.int .i64 ((parts.length : Int) + 1))).run Tryz.prog W = .ok (.slice (some ⟨W.heap.size, 0, none⟩) (parts.length + 1) (parts.length + 1)) (W.alloc (.cells ((List.replicate parts.length false ++ [false]).map Value.bool).toArray 4)) := by
    intro W
    have h := run_make (P := Tryz.prog) W 109 4 i0 (.bool false) Tryz.underlying109' hi hz0 .i64 .i64 ((parts.length : Int) + 1) ((parts.length : Int) + 1) (by omega) (Int.le_refl _) (by rw [hz2]; omega) (by omega)
    rw [hz1] at h
    have e : ((parts.length : Int) + 1).toNat = parts.length + 1 := by omega
    rw [e] at h
    rw [h]
    have e2 : madeCells (Value.bool false).cells ((parts.length + 1) * 1) = ((List.replicate parts.length false ++ [false]).map Value.bool).toArray := by
      rw [Nat.mul_one]
      unfold madeCells
      have ef : (fun x : Nat => (Value.bool false).cells[x % (Value.bool false).cells.size]!) = fun _ => Value.bool false := by
        funext x
        show #[Value.bool false][x % 1]! = _
        rw [Nat.mod_one]; rfl
      rw [ef]
      apply Array.toList_inj.1
      simp [List.map_const', List.replicate_succ']
    rw [e2]
  gi_wp2_with fail
  refine ⟨trivial, rfl, CallsIn.mono (callsIn_wide.2 (backS_any _ _ _ _)) ?_⟩
  rintro e w' ⟨rfl, hw⟩
  rw [hw]
  clear hw w' hmk
  gi_wp2_with fail
  obtain ⟨w1, hw1⟩ : ∃ w1, lay w [.cells #[.slice aa pat.length ca] 32, .cells #[.slice ab parts.length cb] 32, .cells #[.int .i64 (parts.length : Int)] 3, .cells (List.replicate parts.length (Value.bool false) ++ [Value.bool true]).toArray 4, .cells #[.slice (some ⟨n0 + 1 + 1 + 1, 0, none⟩) (parts.length + 1) (parts.length + 1)] 109, .cells #[.slice aa pat.length ca] 32] = w1 := ⟨_, rfl⟩
  obtain ⟨z1, l1, f1⟩ := lay_facts [.cells #[.slice aa pat.length ca] 32, .cells #[.slice ab parts.length cb] 32, .cells #[.int .i64 (parts.length : Int)] 3, .cells (List.replicate parts.length (Value.bool false) ++ [Value.bool true]).toArray 4, .cells #[.slice (some ⟨n0 + 1 + 1 + 1, 0, none⟩) (parts.length + 1) (parts.length + 1)] 109, .cells #[.slice aa pat.length ca] 32] w
  rw [hw1] at z1 l1 f1
  rw [hn0] at z1 l1 f1
  simp only [lay] at hw1
  rw [hw1]
  clear hw1
  replace z1 : w1.heap.size = n0 + 6 := z1
  have q0 : Boxed w1 n0 32 (.slice aa pat.length ca) := f1 0 _ rfl
  have q1 : Boxed w1 (n0 + 1) 32 (.slice ab parts.length cb) := f1 1 _ rfl
  have q2 : Boxed w1 (n0 + 2) 3 (.int .i64 (parts.length : Int)) := f1 2 _ rfl
  have q3 : BRow w1 (n0 + 3) (List.replicate parts.length false ++ [true]) := by
    have := f1 3 _ rfl
    unfold BRow
    rw [this]
    simp
  have q4 : Boxed w1 (n0 + 4) 109 (.slice (some ⟨n0 + 3, 0, none⟩) (parts.length + 1) (parts.length + 1)) := f1 4 _ rfl
  have q5 : Boxed w1 (n0 + 5) 32 (.slice aa pat.length ca) := f1 5 _ rfl
  clear f1
  have hbig := hTl.big w hG
  have hG1 : Gd w1 := hTl.keep w w1 hG (l1.mono (by omega))
  have HP := hide hp
  have HQ := hide hq
  clear hp hq
  have hab : ∀ (rest : List Bool) (N : Nat), n0 + 6 ≤ N → Abide N (RmI Gd w (.slice aa pat.length ca) (.slice ab parts.length cb) parts n0 rest) := fun rest N hN => rmI_abide hTl hN (by omega)
  refine range_out (gf := 85) (lb := #[.pointer (some ⟨n0 + 1 + 1 + 1 + 1 + 1, 0, none⟩)]) rfl (enters_of Tryz.func85 (by kernel_rfl) rfl) (backS_hands (n0 + 5) aa ca pat hpl) (fun _ => rfl)
    (fun k => k = n0 + 3) (fun pre => RmI Gd w (.slice aa pat.length ca) (.slice ab parts.length cb) parts n0 (restR Mn pat.length parts (pat.length - pre.length) (pat.drop (pat.length - pre.length)))) (fun _ _ => False) (fun pre => hab _ _ (by omega)) ⟨fun _ _ h => h.elim, fun _ _ _ h _ => h⟩
    ⟨fun _ => Iff.rfl, q0, q1, q2, q4, by simpa [restR] using q3, l1, hG1, by omega⟩ (fun W hB => ⟨boxed_below q5 hB (by omega), fun q => by omega⟩)
    (fun pre x C A hp hI => by
      obtain ⟨e1, e2⟩ := revE_at hp
      rcases HP.out with ⟨he, he2⟩ | ⟨g, cap, he, hg, hc, hx⟩
      · subst he2
        simp at e1
      · cases he
        exact ⟨g, rfl, hc, (hI.bel.cell (p := ⟨g, x.1, none⟩) (by show g < n0; omega)).trans (hx _ _ e2)⟩) ?round ?done ?stop
  case round =>
    clear q0 q1 q2 q3 q4 q5 hG1
    rintro l2 pre ⟨k, p⟩ C W hl2 hrec hCl2 hpre hI
    obtain ⟨e1, e2⟩ := revE_at hpre
    dsimp only at e1 e2
    obtain ⟨hlt, e2⟩ := List.getElem?_eq_some_iff.1 e2
    simp only [encIS]
    gi_wp2
    refine ⟨Below.refl _ _, fun W2 hsw => ?_⟩
    have hI2 := (hab _ w1.heap.size (by omega)).keep _ _ _ hI (hsw.keep hl2 hCl2)
    clear hI hsw hrec
    have hj : pat.length - pre.length = k + 1 := by omega
    have hj2 : pat.length - (pre ++ [(k, p)]).length = k := by simp; omega
    have hnew : restR Mn pat.length parts k (pat.drop k) = stepR Mn pat.length parts k p (restR Mn pat.length parts (k + 1) (pat.drop (k + 1))) := by
      rw [List.drop_eq_getElem_cons hlt, e2]
      rfl
    rw [hj] at hI2
    have hrl := restR_length Mn pat.length parts (pat.drop (k + 1)) (k + 1)
    obtain ⟨rest, hrest⟩ : ∃ r, restR Mn pat.length parts (k + 1) (pat.drop (k + 1)) = r := ⟨_, rfl⟩
    rw [hrest] at hI2 hnew hrl
    have FIN : Hid (∀ (a : Act) (A : World), TurnC C C W2 A → RmI Gd w (.slice aa pat.length ca) (.slice ab parts.length cb) parts n0 (stepR Mn pat.length parts k p rest) C A → roundC (fun pre => RmI Gd w (.slice aa pat.length ca) (.slice ab parts.length cb) parts n0 (restR Mn pat.length parts (pat.length - pre.length) (pat.drop (pat.length - pre.length)))) (fun _ _ => False) C (pre ++ [(k, p)]) W2 .normal a A) := fun a A ht hI => ⟨C, ht, by
      show RmI _ _ _ _ _ _ (restR Mn pat.length parts (pat.length - (pre ++ [(k, p)]).length) (pat.drop (pat.length - (pre ++ [(k, p)]).length))) _ _
      rw [hj2, hnew]; exact hI⟩
    clear hrest hnew hj hj2 e1 e2 hpre
    obtain rfl : C = fun k => k = n0 + 3 := funext fun k => propext (hI2.cs k)
    cases hstar : (p.toList == [42, 42])
    · have k1 := hI2.b1.cell
      have HI2 := hide hI2
      clear hI2
      gi_wp2
      clear k1
      obtain ⟨zs, hzs⟩ : ∃ zs, List.zipWith (fun b q => b && Mn p q) rest.tail parts = zs := ⟨_, rfl⟩
      have hzl : zs.length = parts.length := by rw [← hzs]; simp; omega
      gi_loopw [41] (fun iv wr => ∃ j : Nat, iv = .int .i64 (j : Int) ∧ j ≤ parts.length ∧ TurnC (fun k => k = n0 + 3) (fun k => k = n0 + 3) W2 wr ∧ RmI Gd w (.slice aa pat.length ca) (.slice ab parts.length cb) parts n0 (zs.take j ++ rest.drop j) (fun k => k = n0 + 3) wr) (fun iv _ => parts.length - (intOf iv).toNat)
      case atStart => exact ⟨0, rfl, Nat.zero_le _, .refl _ _, by rw [List.take_zero, List.drop_zero, List.nil_append]; exact HI2.out⟩
      case round =>
        obtain ⟨j, rfl, hj, htj, hIj⟩ := hrel
        by_cases hjl : j < parts.length
        · have hjI : (j : Int) < (parts.length : Int) := by omega
          have hjI2 : (j : Int) + 1 < (parts.length : Int) + 1 := by omega
          obtain ⟨q, hq⟩ : ∃ q, parts[j]? = some q := ⟨_, List.getElem?_eq_getElem hjl⟩
          have hqz := hqs q (List.mem_of_getElem? hq)
          rcases HQ.out with ⟨he, he2⟩ | ⟨gq, capq, he, hgq, hcq, hxq⟩
          · subst he2
            simp at hjl
          cases he
          have kq := (hIj.bel.cell (p := ⟨gq, j, none⟩) (by show gq < n0; omega)).trans (hxq j q hq)
          obtain ⟨b1, hb1⟩ : ∃ b, rest[j + 1]? = some b := ⟨_, List.getElem?_eq_getElem (by omega)⟩
          have kb : wr.cell? ⟨n0 + 3, j + 1, none⟩ = some (.bool b1) := hIj.row.cell (by rw [List.getElem?_append_right (by rw [List.length_take]; omega), List.length_take, Nat.min_eq_left (by omega), List.getElem?_drop, show j + (j + 1 - j) = j + 1 by omega]; exact hb1)
          obtain ⟨b0, hb0⟩ : ∃ b, rest[j]? = some b := ⟨_, List.getElem?_eq_getElem (by omega)⟩
          have kb0 : wr.cell? ⟨n0 + 3, j, none⟩ = some (.bool b0) := hIj.row.cell (by rw [List.getElem?_append_right (by rw [List.length_take]; omega), List.length_take, Nat.min_eq_left (by omega), List.getElem?_drop, show j + (j - j) = j by omega]; exact hb0)
          have hfr := hIj.row.fr j
          have k4 := hIj.b4.cell
          have hGd : Gd wr.drew := hTl.keep _ _ hIj.gd (Below.refl _ _).drew
          have hMn : Calls Tryz.prog 41 #[.string p, .string q] wr.drew fun e w' => e = .returned (.bool (Mn p q)) ∧ Below wr.heap.size wr w' := (hTl.tell p q wr.drew hqz hGd).mono fun e w' h => ⟨h.1, ((Below.refl wr.heap.size wr).drew).trans h.2⟩
          have HZ : Hid (zs[j]? = some (b1 && Mn p q)) := by
            unfold Hid
            rw [← hzs, List.getElem?_zipWith, List.getElem?_tail, hb1, hq]
          have hl4 := hIj.b4.lt
          have hl3 := hIj.row.lt
          have HIJ := hide hIj
          have HTJ := hide htj
          clear hIj htj hq hxq hb1 hb0 hzs hGd
          gi_wp2
          refine Rg.reg14 (n0 + 1 + 1 + 1 + 1) (n0 + 1 + 1 + 1) parts.length j p q b0 b1 (Mn p q) wr hjl (by omega) k4 kb kb0 hfr hl4 hl3 hMn ?_
          clear hMn k4 kb kb0 hfr kq
          intro x46 x47 x48 x49 x50 x51 x52 x53 x54 x55 x56 x57 x58 w0 hb0
          have t1 : TurnC (fun k => k = n0 + 3) (fun k => k = n0 + 3) wr w0 := .of_below hb0
          have t2 : TurnC (fun k => k = n0 + 3) (fun k => k = n0 + 3) w0 (w0.setCell ⟨n0 + 3, j, none⟩ (.bool (b1 && Mn p q))) := .setCell _ _ _ rfl
          have hrow : BRow w0 (n0 + 3) (zs.take j ++ rest.drop j) := (hb0.block _ hl3).trans HIJ.out.row
          have e3 : (zs.take j ++ rest.drop j).set j (b1 && Mn p q) = zs.take (j + 1) ++ rest.drop (j + 1) := by
            rw [List.set_append_right _ _ (by rw [List.length_take]; omega), List.length_take, Nat.min_eq_left (by omega), Nat.sub_self, List.take_add_one, HZ.out, List.append_assoc, List.drop_eq_getElem_cons (show j < rest.length by omega)]
            rfl
          have hrow2 := hrow.set j (b1 && Mn p q)
          rw [e3] at hrow2
          have HI3 := hide (HIJ.out.turn hTl (by omega) (t1.trans t2) hrow2)
          have HT3 := hide (HTJ.out.trans (t1.trans t2))
          clear t1 t2 hrow hrow2 e3
          gi_wp2
          case roundEnd =>
            refine ⟨⟨j + 1, by simp, by omega, HT3.out, HI3.out⟩, ?_⟩
            simp [intOf]; omega
        · obtain rfl : j = parts.length := by omega
          have k2 := hIj.b2.cell
          have k4 := hIj.b4.cell
          obtain ⟨b0, hb0⟩ : ∃ b, rest[parts.length]? = some b := ⟨_, List.getElem?_eq_getElem (by omega)⟩
          have kb0 : wr.cell? ⟨n0 + 3, parts.length, none⟩ = some (.bool b0) := hIj.row.cell (by rw [List.getElem?_append_right (by rw [List.length_take]; omega), List.length_take, Nat.min_eq_left (by omega), List.getElem?_drop, show parts.length + (parts.length - parts.length) = parts.length by omega]; exact hb0)
          have hfr := hIj.row.fr parts.length
          have hnI : ¬ ((parts.length : Int) < (parts.length : Int)) := by omega
          have t2 : TurnC (fun k => k = n0 + 3) (fun k => k = n0 + 3) wr (wr.setCell ⟨n0 + 3, parts.length, none⟩ (.bool false)) := .setCell _ _ _ rfl
          have e3 : (zs.take parts.length ++ rest.drop parts.length).set parts.length false = stepR Mn pat.length parts k p rest := by
            unfold stepR litL
            rw [if_neg (by rw [hstar]; decide), hzs, List.set_append_right _ _ (by rw [List.length_take]; omega), List.length_take, Nat.min_eq_left (by omega), Nat.sub_self, List.take_of_length_le (by omega), List.drop_eq_getElem_cons (show parts.length < rest.length by omega), List.drop_of_length_le (by omega)]
            rfl
          have hrow2 := hIj.row.set parts.length false
          rw [e3] at hrow2
          have HF := hide (FIN.out · _ (htj.trans t2) (hIj.turn hTl (by omega) t2 hrow2))
          clear t2 hrow2 e3 hIj htj hb0 hzs
          gi_wp2
          exact HF.out _
    · have hA := addAny_any (n0 + 3) (parts.length + 1) rest W2 hI2.row (by omega) (by omega)
      rw [hrl] at hA
      have k4 := hI2.b4.cell
      have HI2 := hide hI2
      clear hI2
      gi_wp2_with fail
      refine ⟨trivial, rfl, CallsIn.mono (CallsIn.inRound l2 (callsIn_wide.2 hA)) ?_⟩
      rintro e W3 ⟨⟨v, rfl⟩, hr3, ht3⟩
      have hI3 := HI2.out.turn hTl (by omega) ht3 hr3
      clear HI2 hA k4
      have k0 := hI3.b0.cell
      have k2 := hI3.b2.cell
      have k4 := hI3.b4.cell
      have hal := anyL_length rest
      obtain ⟨bv, hbv⟩ : ∃ b, (anyL rest)[parts.length]? = some b := ⟨_, List.getElem?_eq_getElem (by omega)⟩
      have kr := hr3.cell hbv
      have fr := hr3.fr parts.length
      have HT3 := hide ht3
      have HI3 := hide hI3
      have HR3 := hide hr3
      clear hI3 hr3 ht3 hal hbv
      by_cases hk0 : 0 < k
      · have g0 : (0 : Int) < (k : Int) := by omega
        by_cases hkl : k = pat.length - 1
        · have g1 : ((k : Int) == (pat.length : Int) - 1) = true := by rw [beq_iff_eq]; omega
          gi_wp2
          have ht4 : TurnC (fun k => k = n0 + 3) (fun k => k = n0 + 3) W3 (W3.setCell ⟨n0 + 3, parts.length, none⟩ (.bool false)) := .setCell _ _ _ rfl
          refine FIN.out _ _ (HT3.out.trans ht4) ?_
          have he : stepR Mn pat.length parts k p rest = (anyL rest).set parts.length false := by unfold stepR; rw [if_pos hstar, if_pos ⟨hk0, hkl⟩]
          rw [he]
          exact HI3.out.turn hTl (by omega) ht4 (HR3.out.set _ _)
        · have g1 : ((k : Int) == (pat.length : Int) - 1) = false := by rw [beq_eq_false_iff_ne]; omega
          gi_wp2
          refine FIN.out _ _ HT3.out ?_
          have he : stepR Mn pat.length parts k p rest = anyL rest := by unfold stepR; rw [if_pos hstar, if_neg (fun q => hkl q.2)]
          rw [he]
          exact HI3.out
      · have g0 : ¬ ((0 : Int) < (k : Int)) := by omega
        gi_wp2
        refine FIN.out _ _ HT3.out ?_
        have he : stepR Mn pat.length parts k p rest = anyL rest := by unfold stepR; rw [if_pos hstar, if_neg (fun q => hk0 q.1)]
        rw [he]
        exact HI3.out
  case done =>
    rintro C W hz hC hI hK
    have hI : RmI Gd w (.slice aa pat.length ca) (.slice ab parts.length cb) parts n0 (restR Mn pat.length parts (pat.length - (revE pat).length) (pat.drop (pat.length - (revE pat).length))) C W := hI
    have e : (revE pat).length = pat.length := by simp [revE]
    rw [e, Nat.sub_self, List.drop_zero] at hI
    have hrl := restR_length Mn pat.length parts pat 0
    have k4 := hI.b4.cell
    obtain ⟨bv, hbv⟩ : ∃ b, (restR Mn pat.length parts 0 pat)[0]? = some b := ⟨_, List.getElem?_eq_getElem (by omega)⟩
    have HD : Hid (rowD Mn pat parts = bv) := by
      unfold Hid rowD
      cases hr : restR Mn pat.length parts 0 pat with
      | nil => rw [hr] at hrl; simp at hrl
      | cons b r => rw [hr] at hbv; simpa using hbv
    have kr : W.cell? ⟨n0 + 3, 0, none⟩ = some (.bool bv) := hI.row.cell hbv
    clear hbv hrl
    have HI := hide hI
    have HK := hide hK
    clear hI hK
    gi_wp2
    refine leave_ret HK.out (v := .bool (rowD Mn pat parts)) ?_ ⟨rfl, ?_⟩
    · rw [HD.out]
      simp [results, Tryz.results44, go_sem]
    · exact below_put (by rw [hn0]; exact HI.out.bel) (by omega)
  case stop =>
    rintro C W hz hC hI hK
    exact hI.elim
end Go.Proofs.YtjbdoeoimodhkaaGreatDoor
