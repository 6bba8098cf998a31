/- Merged: IbF, IbB, Join. -/
import Derived.RangeFuncNested
import Derived.RangeFuncBox
import Derived.Shelf.RegionOpen
import Derived.RangeFuncLeaves
import Derived.Test.YtfemboojdablhaaGreatDoorMi00
import Derived.TacticsInMore
import Derived.LoopNIn
import Derived.LoopIn
import Derived.WalkKit
import Derived.OwnWalkIn
import Derived.Shelf.Abstract
import Derived.Test.YtfemboojdablhaaGreatDoorMi22
namespace Go.Proofs.YtfemboojdablhaaGreatDoor
open Go.RowKit Go.Shelf
structure KeepC (N : Nat) (C : Nat → Prop) (A A' : World) : Prop where
  os : A'.os = A.os
  tape : A'.tape = A.tape
  output : A'.output = A.output
  size : A.heap.size ≤ A'.heap.size
  block : ∀ k, k < A.heap.size → (k < N ∨ C k) → A'.heap[k]? = A.heap[k]?
structure TurnC (C C' : Nat → Prop) (A A' : World) : Prop where
  os : A'.os = A.os
  tape : A'.tape = A.tape
  output : A'.output = A.output
  size : A.heap.size ≤ A'.heap.size
  block : ∀ k, k < A.heap.size → ¬ C k → A'.heap[k]? = A.heap[k]?
  new : ∀ k, C' k → C k ∨ A.heap.size ≤ k
theorem KeepC.trans {N : Nat} {C : Nat → Prop} {A B D : World} (h : KeepC N C A B) (k : KeepC N C B D) : KeepC N C A D :=
  ⟨k.os.trans h.os, k.tape.trans h.tape, k.output.trans h.output, Nat.le_trans h.size k.size, fun i hi hc => (k.block i (Nat.lt_of_lt_of_le hi h.size) hc).trans (h.block i hi hc)⟩
theorem KeepC.mono {N N' : Nat} {C C' : Nat → Prop} {A B : World} (h : KeepC N C A B) (hN : N' ≤ N) (hC : ∀ k, C' k → C k) : KeepC N' C' A B :=
  ⟨h.os, h.tape, h.output, h.size, fun k hk hc => h.block k hk (hc.imp (fun q => Nat.lt_of_lt_of_le q hN) (hC k))⟩
theorem KeepC.of_below {N : Nat} {C : Nat → Prop} {A B : World} (h : Below A.heap.size A B) : KeepC N C A B := ⟨h.os, h.tape, h.output, h.size, fun k hk _ => h.block k hk⟩
theorem KeepC.putObj {N : Nat} {C : Nat → Prop} {A : World} (b : Nat) (o : Obj) (hN : N ≤ b) (hC : ¬ C b) : KeepC N C A (A.putObj b o) :=
  ⟨rfl, rfl, rfl, by simp, fun k _ hc => World.putObj_heap_other (fun e => by subst e; rcases hc with h | h; omega; exact hC h)⟩
theorem TurnC.trans {C C' C'' : Nat → Prop} {A B D : World} (h : TurnC C C' A B) (k : TurnC C' C'' B D) : TurnC C C'' A D :=
  ⟨k.os.trans h.os, k.tape.trans h.tape, k.output.trans h.output, Nat.le_trans h.size k.size, fun i hi hc => (k.block i (Nat.lt_of_lt_of_le hi h.size) (fun q => by rcases h.new i q with q | q; exact hc q; omega)).trans (h.block i hi hc),
   fun i hi => by rcases k.new i hi with q | q; exact h.new i q; exact .inr (Nat.le_trans h.size q)⟩
theorem TurnC.of_below {C : Nat → Prop} {A B : World} (h : Below A.heap.size A B) : TurnC C C A B := ⟨h.os, h.tape, h.output, h.size, fun k hk _ => h.block k hk, fun _ h => .inl h⟩
theorem TurnC.refl (C : Nat → Prop) (A : World) : TurnC C C A A := .of_below (Below.refl _ _)
theorem TurnC.putObj {C : Nat → Prop} {A : World} (b : Nat) (o : Obj) (hC : C b) : TurnC C C A (A.putObj b o) := ⟨rfl, rfl, rfl, by simp, fun k _ hc => World.putObj_heap_other (fun e => by subst e; exact hc hC), fun _ h => .inl h⟩
theorem TurnC.setCell {C : Nat → Prop} {A : World} (b o : Nat) (v : Value) (hC : C b) : TurnC C C A (A.setCell ⟨b, o, none⟩ v) :=
  ⟨rfl, rfl, rfl, (KeepsWalks.setCell A _ v).size, fun k _ hc => Below.heap_setCell _ _ _ k (fun e => by have e : k = b := e; subst e; exact hc hC), fun _ h => .inl h⟩
theorem TurnC.wide {C C' E : Nat → Prop} {A B : World} (h : TurnC C C' A B) : TurnC (fun k => C k ∨ E k) (fun k => C' k ∨ E k) A B :=
  ⟨h.os, h.tape, h.output, h.size, fun k hk hc => h.block k hk (fun q => hc (.inl q)), fun k hk => by rcases hk with q | q; exact (h.new k q).imp .inl id; exact .inl (.inr q)⟩
structure Abide (N : Nat) (J : (Nat → Prop) → World → Prop) : Prop where
  lt : ∀ C A, J C A → ∀ k, C k → k < A.heap.size
  keep : ∀ C A A', J C A → KeepC N C A A' → J C A'
def HandsC {α : Type} (P : Program) (gf : Nat) (lb : Array Value) (encs : α → Array Value) (xs : List α) (Rd : (Nat → Prop) → World → Prop) (Rx : α → World → Prop) : Prop :=
  ∀ (l : Nat) (J : List α → (Nat → Prop) → World → Prop) (Jx : (Nat → Prop) → World → Prop) (C : Nat → Prop) (W : World),
    (∀ pre, Abide W.heap.size (J pre)) → Abide W.heap.size Jx →
    (∀ pre x C A, pre ++ [x] <+: xs → J pre C A → YieldAt Fence.wide 0 P l (encs x) A fun e A' => ∃ C', TurnC C C' A A' ∧ ((e = .returned (.bool true) ∧ J (pre ++ [x]) C' A') ∨ (e = .returned (.bool false) ∧ Jx C' A'))) →
    (∀ pre x C A, pre ++ [x] <+: xs → J pre C A → Rx x A) →
    Rd C W → J [] C W → CallsIn Fence.wide 0 P gf (#[.func (.yield l) #[] #[]] ++ lb) W fun e W' => (∃ v, e = .returned v) ∧ ∃ C', J xs C' W' ∨ Jx C' W'
theorem callsIn_any {n m : Nat} {P : Program} {f : FuncId} {args : Array Value} {w : World} {R : Ending → World → Prop} (h : CallsIn Fence.wide n P f args w R) : CallsIn Fence.wide m P f args w R := ⟨h.1, fun cs _ => h.2 cs (room_wide _)⟩
structure Swap (l : Nat) (A A' : World) : Prop where
  os : A'.os = A.os
  tape : A'.tape = A.tape
  output : A'.output = A.output
  size : A'.heap.size = A.heap.size
  block : ∀ k, k ≠ l → A'.heap[k]? = A.heap[k]?
  record : ∃ r, A'.heap[l]? = some (.loop r)
theorem Swap.keep {l N : Nat} {C : Nat → Prop} {A A' : World} (h : Swap l A A') (hN : N ≤ l) (hC : ¬ C l) : KeepC N C A A' :=
  ⟨h.os, h.tape, h.output, Nat.le_of_eq h.size.symm, fun k _ hc => h.block k (fun e => by subst e; rcases hc with q | q; omega; exact hC q)⟩
theorem swap_putObj {l : Nat} {A : World} (r : Loop) (h : l < A.heap.size) : Swap l A (A.putObj l (.loop r)) := ⟨rfl, rfl, rfl, by simp, fun _ hk => World.putObj_heap_other hk, r, World.putObj_heap_same h⟩
def roundC {α : Type} (I : List α → (Nat → Prop) → World → Prop) (Ix : (Nat → Prop) → World → Prop) (C : Nat → Prop) (xs : List α) (W : World) : Exit → Act → World → Prop
  | .normal, _, W' => ∃ C', TurnC C C' W W' ∧ I xs C' W'
  | .ret, _, W' => ∃ C', TurnC C C' W W' ∧ Ix C' W'
  | _, _, _ => False
theorem wpIn_ret' {F : Fence} {n : Nat} {P : Program} {Q : Exit → Act → World → Prop} {a : Act} {w : World} (h : Q .ret a w) : Code.ret.wpIn F n P Q a w := by
  first | exact wpIn_ret h | exact (wpIn_ret).2 h
theorem range_out {α : Type} {P : Program} {n : Nat} {g : Operand} {ps : Array Tmp} {assign body : Code} {Q : Exit → Act → World → Prop} {a : Act} {w : World} {gf : Nat} {lb : Array Value} (hg : a.eval g = .func (.func gf) #[] lb)
    (eg : ∀ args w, (callFunc gf args).run P w = .ok (.enter gf args) w) {encs : α → Array Value} {xs : List α} {Rd : (Nat → Prop) → World → Prop} {Rx : α → World → Prop} (hh : HandsC P gf lb encs xs Rd Rx) (hps : ∀ x, (encs x).size = ps.size)
    (C0 : Nat → Prop) (I : List α → (Nat → Prop) → World → Prop) (Ix : (Nat → Prop) → World → Prop) (hI : ∀ pre, Abide w.heap.size (I pre)) (hIx : Abide w.heap.size Ix) (h0 : I [] C0 w)
    (hRd : ∀ W, Below w.heap.size w W → Rd (fun k => C0 k ∨ k = w.heap.size + 1) W) (hRx : ∀ pre x C A, pre ++ [x] <+: xs → I pre C A → Rx x A)
    (hround : ∀ (l : Nat) (pre : List α) (x : α) (C : Nat → Prop) (W : World), w.heap.size ≤ l → (∃ r, W.heap[l]? = some (.loop r)) → ¬ C l → pre ++ [x] <+: xs → I pre C W →
      assign.wpIn (Fence.wide.inRound l) 0 P (Exit.then (fun a1 W1 => Below W.heap.size W W1 ∧ ∀ W2, Swap l W1 W2 → body.wpIn (Fence.wide.inRound l) 0 P (roundC I Ix C (pre ++ [x]) W2) a1 W2) (fun _ _ _ => False)) { tmps := (ps.zip (encs x)).foldl (fun t (p, v) => t.setIfInBounds p v) a.tmps, defers := [] } W)
    (hdone : ∀ C W, w.heap.size + 2 ≤ W.heap.size → ¬ C w.heap.size → I xs C W → W.heap[w.heap.size]? = some (.deferred (some [])) → Q .normal { a with defers := { target := .collected w.heap.size, args := #[] } :: a.defers } W)
    (hstop : ∀ C W, w.heap.size + 2 ≤ W.heap.size → ¬ C w.heap.size → Ix C W → W.heap[w.heap.size]? = some (.deferred (some [])) → Q .ret { a with defers := { target := .collected w.heap.size, args := #[] } :: a.defers } W) :
    (Code.rangeFunc g ps assign body).wpIn Fence.wide n P Q a w := by
  refine wpIn_rangeFunc fun fn hfn => ?_
  obtain ⟨R, hR⟩ : ∃ R : LoopState → Option Code → Loop, R = fun st pe => { state := st, pending := pe, fn, tmps := a.tmps, params := ps, assign, body, defers := w.heap.size } := ⟨_, rfl⟩
  have s1 : ((w.alloc (.deferred (some []))).alloc (.loop (R .ready none))).heap[w.heap.size + 1]? = some (.loop (R .ready none)) := by
    have := World.alloc_heap_new (w.alloc (.deferred (some []))) (.loop (R .ready none))
    rwa [World.size_alloc] at this
  have s2 : ((w.alloc (.deferred (some []))).alloc (.loop (R .ready none))).heap[w.heap.size]? = some (.deferred (some [])) := (Below.heap_alloc _ _ _ (by simp)).trans (World.alloc_heap_new w _)
  have hb : Below w.heap.size w ((w.alloc (.deferred (some []))).alloc (.loop (R .ready none))) := ((Below.refl _ w).alloc (Nat.le_refl _) _).alloc (by simp) _
  have hsz : ((w.alloc (.deferred (some []))).alloc (.loop (R .ready none))).heap.size = w.heap.size + 2 := by simp
  obtain ⟨W1, hW1⟩ : ∃ W1, (w.alloc (.deferred (some []))).alloc (.loop (R .ready none)) = W1 := ⟨_, rfl⟩
  rw [hW1] at s1 s2 hb hsz
  have hlt0 := (hI []).lt _ _ h0
  have s3 : I [] C0 W1 := (hI []).keep _ _ _ h0 (.of_below hb)
  refine ⟨w.heap.size + 1, [{ target := .collected w.heap.size, args := #[] }], W1, { target := .fn (.func gf) lb, args := #[.func (.yield (w.heap.size + 1)) #[] #[]] }, W1, gf, #[.func (.yield (w.heap.size + 1)) #[] #[]] ++ lb, W1, ?_, ?_, fun _ _ => trivial, ?_, fun h => (by cases h), ?_⟩
  · rw [← hW1, hR]; exact run_enterLoop_outer _ _ _ _ _
  · simp only [resolve, hg]
    simp [go_sem]
  · simp [invoke, go_sem, eg]
  · refine callsIn_any ((hh (w.heap.size + 1)
      (fun pre C'' W => ∃ C, (∀ k, C'' k ↔ (C k ∨ k = w.heap.size + 1)) ∧ ¬ C (w.heap.size + 1) ∧ ¬ C w.heap.size ∧ I pre C W ∧ W.heap[w.heap.size + 1]? = some (.loop (R .ready none)) ∧ W.heap[w.heap.size]? = some (.deferred (some [])))
      (fun C'' W => ∃ C, (∀ k, C'' k ↔ (C k ∨ k = w.heap.size + 1)) ∧ ¬ C (w.heap.size + 1) ∧ ¬ C w.heap.size ∧ Ix C W ∧ W.heap[w.heap.size + 1]? = some (.loop (R .done (some .ret))) ∧ W.heap[w.heap.size]? = some (.deferred (some [])))
      (fun k => C0 k ∨ k = w.heap.size + 1) W1 ?_ ?_ ?_ (fun pre x C'' A hp h => by obtain ⟨C, _, _, _, hi, _, _⟩ := h; exact hRx pre x C A hp hi) (hRd W1 hb) ⟨C0, fun _ => Iff.rfl, fun h => by have := hlt0 _ h; omega, fun h => by have := hlt0 _ h; omega, s3, s1, s2⟩).mono ?_)
    · intro pre
      constructor
      · rintro C'' A ⟨C, hC, _, _, hi, h1, _⟩ k hk
        rcases (hC k).1 hk with q | rfl
        · exact (hI pre).lt _ _ hi k q
        · exact (Array.getElem?_eq_some_iff.1 h1).1
      · rintro C'' A A' ⟨C, hC, c1, c2, hi, h1, h2⟩ hk
        exact ⟨C, hC, c1, c2, (hI pre).keep _ _ _ hi (hk.mono (by omega) (fun k q => (hC k).2 (.inl q))), (hk.block _ (Array.getElem?_eq_some_iff.1 h1).1 (.inl (by omega))).trans h1, (hk.block _ (Array.getElem?_eq_some_iff.1 h2).1 (.inl (by omega))).trans h2⟩
    · constructor
      · rintro C'' A ⟨C, hC, _, _, hi, h1, _⟩ k hk
        rcases (hC k).1 hk with q | rfl
        · exact hIx.lt _ _ hi k q
        · exact (Array.getElem?_eq_some_iff.1 h1).1
      · rintro C'' A A' ⟨C, hC, c1, c2, hi, h1, h2⟩ hk
        exact ⟨C, hC, c1, c2, hIx.keep _ _ _ hi (hk.mono (by omega) (fun k q => (hC k).2 (.inl q))), (hk.block _ (Array.getElem?_eq_some_iff.1 h1).1 (.inl (by omega))).trans h1, (hk.block _ (Array.getElem?_eq_some_iff.1 h2).1 (.inl (by omega))).trans h2⟩
    · rintro pre x C'' A hpre ⟨C, hC, c1, c2, hi, h1, h2⟩
      have hlt := (Array.getElem?_eq_some_iff.1 h1).1
      have hy := run_yield (P := P) (args := encs x) h1 (by rw [hR]; exact hps x)
      rw [hR] at hy
      refine ⟨fn, _, assign, body, hy, roundIn_of_wpIn hfn (wpIn_mono (hround _ pre x C A (by omega) ⟨_, h1⟩ c1 hpre hi) ?_)⟩
      rintro e a1 A1 he
      cases e with
      | normal =>
        obtain ⟨hb1, hbody⟩ := he
        have h1' := (hb1.block _ hlt).trans h1
        have hlt1 := (Array.getElem?_eq_some_iff.1 h1').1
        refine ⟨_, run_beginRound h1' (by rw [hR]), wpIn_mono (hbody _ (swap_putObj _ hlt1)) ?_⟩
        have q1 := World.putObj_heap_same (o := .loop { R .ready none with state := .busy }) hlt1
        have q2 : (A1.putObj (w.heap.size + 1) (.loop { R .ready none with state := .busy })).heap[w.heap.size]? = some (.deferred (some [])) := (World.putObj_heap_other (by omega)).trans ((hb1.block _ (Array.getElem?_eq_some_iff.1 h2).1).trans h2)
        have fin : ∀ (jump : Option Code) (C' : Nat → Prop) (A3 : World), TurnC C C' (A1.putObj (w.heap.size + 1) (.loop { R .ready none with state := .busy })) A3 →
            ¬ C' (w.heap.size + 1) ∧ ¬ C' w.heap.size ∧ (Instr.endRound (w.heap.size + 1) jump).run P A3 = .ok (.bool jump.isNone) (A3.putObj (w.heap.size + 1) (.loop (R (if jump.isNone then .ready else .done) jump))) ∧
            TurnC C'' (fun k => C' k ∨ k = w.heap.size + 1) A (A3.putObj (w.heap.size + 1) (.loop (R (if jump.isNone then .ready else .done) jump))) ∧
            (A3.putObj (w.heap.size + 1) (.loop (R (if jump.isNone then .ready else .done) jump))).heap[w.heap.size + 1]? = some (.loop (R (if jump.isNone then .ready else .done) jump)) ∧
            (A3.putObj (w.heap.size + 1) (.loop (R (if jump.isNone then .ready else .done) jump))).heap[w.heap.size]? = some (.deferred (some [])) := by
          intro jump C' A3 ht
          have d1 : ¬ C' (w.heap.size + 1) := fun h => by rcases ht.new _ h with q | q; exact c1 q; simp at q; omega
          have d2 : ¬ C' w.heap.size := fun h => by rcases ht.new _ h with q | q; exact c2 q; simp at q; omega
          have q3 := (ht.block _ (by simpa using hlt1) c1).trans q1
          have q4 := (ht.block w.heap.size (by simp; omega) c2).trans q2
          have hr := run_endRound (P := P) jump q3
          have hlt3 := (Array.getElem?_eq_some_iff.1 q3).1
          refine ⟨d1, d2, by rw [hR] at hr ⊢; exact hr, ?_, World.putObj_heap_same hlt3, (World.putObj_heap_other (by omega)).trans q4⟩
          have t1 : TurnC C'' (fun k => C k ∨ k = w.heap.size + 1) A A1 := ⟨hb1.os, hb1.tape, hb1.output, hb1.size, fun k hk _ => hb1.block k hk, fun k hk => .inl ((hC k).2 hk)⟩
          exact ((t1.trans (TurnC.putObj _ _ (.inr rfl))).trans ht.wide).trans (TurnC.putObj _ _ (.inr rfl))
        rintro e3 a3 A3 hp
        cases e3 with
        | normal =>
          obtain ⟨C', ht, hi3⟩ := hp
          obtain ⟨d1, d2, hr, t, f1, f2⟩ := fin none C' A3 ht
          exact ⟨_, _, hr, _, t, .inl ⟨rfl, C', fun _ => Iff.rfl, d1, d2, (hI _).keep _ _ _ hi3 (KeepC.putObj _ _ (by omega) d1), f1, f2⟩⟩
        | ret =>
          obtain ⟨C', ht, hi3⟩ := hp
          obtain ⟨d1, d2, hr, t, f1, f2⟩ := fin (some .ret) C' A3 ht
          exact ⟨_, _, hr, _, t, .inr ⟨rfl, C', fun _ => Iff.rfl, d1, d2, hIx.keep _ _ _ hi3 (KeepC.putObj _ _ (by omega) d1), f1, f2⟩⟩
        | exit id => exact hp.elim
        | goto t => exact hp.elim
        | panic ch => exact hp.elim
        | outgrown => exact hp.elim
      | ret => exact he.elim
      | exit id => exact he.elim
      | goto t => exact he.elim
      | panic ch => exact he.elim
      | outgrown => exact he.elim
    · rintro e W2 ⟨⟨v, rfl⟩, C'', (⟨C, hC, c1, c2, hi, h1, h2⟩ | ⟨C, hC, c1, c2, hi, h1, h2⟩)⟩
      · have hlt := (Array.getElem?_eq_some_iff.1 h1).1
        exact ⟨none, _, by have := run_endLoop (P := P) h1 (by rw [hR]; simp); rw [hR] at this; exact this, hdone C _ (by simp; omega) c2 ((hI _).keep _ _ _ hi (KeepC.putObj _ _ (by omega) c1)) ((World.putObj_heap_other (by omega)).trans h2)⟩
      · have hlt := (Array.getElem?_eq_some_iff.1 h1).1
        exact ⟨some .ret, _, by have := run_endLoop (P := P) h1 (by rw [hR]; simp); rw [hR] at this; exact this, wpIn_ret' (hstop C _ (by simp; omega) c2 (hIx.keep _ _ _ hi (KeepC.putObj _ _ (by omega) c1)) ((World.putObj_heap_other (by omega)).trans h2))⟩
theorem range_in {α : Type} {P : Program} {n : Nat} {g : Operand} {ps : Array Tmp} {assign body : Code} {Q : Exit → Act → World → Prop} {a : Act} {w : World} {gf : Nat} {lb : Array Value} {l₀ : Nat} {r₀ : Loop} (hl₀ : w.heap[l₀]? = some (.loop r₀)) (hg : a.eval g = .func (.func gf) #[] lb)
    (eg : ∀ args w, (callFunc gf args).run P w = .ok (.enter gf args) w) {encs : α → Array Value} {xs : List α} {Rd : (Nat → Prop) → World → Prop} {Rx : α → World → Prop} (hh : HandsC P gf lb encs xs Rd Rx) (hps : ∀ x, (encs x).size = ps.size)
    (C0 : Nat → Prop) (I : List α → (Nat → Prop) → World → Prop) (Ix : (Nat → Prop) → World → Prop) (hI : ∀ pre, Abide w.heap.size (I pre)) (hIx : Abide w.heap.size Ix) (h0 : I [] C0 w)
    (hRd : ∀ W, Below w.heap.size w W → Rd (fun k => C0 k ∨ k = w.heap.size) W) (hRx : ∀ pre x C A, pre ++ [x] <+: xs → I pre C A → Rx x A)
    (hround : ∀ (l : Nat) (pre : List α) (x : α) (C : Nat → Prop) (W : World), w.heap.size ≤ l → (∃ r, W.heap[l]? = some (.loop r)) → ¬ C l → pre ++ [x] <+: xs → I pre C W →
      assign.wpIn (Fence.wide.inRound l) 0 P (Exit.then (fun a1 W1 => Below W.heap.size W W1 ∧ ∀ W2, Swap l W1 W2 → body.wpIn (Fence.wide.inRound l) 0 P (roundC I Ix C (pre ++ [x]) W2) a1 W2) (fun _ _ _ => False)) { tmps := (ps.zip (encs x)).foldl (fun t (p, v) => t.setIfInBounds p v) a.tmps, defers := [] } W)
    (hdone : ∀ C W, w.heap.size + 1 ≤ W.heap.size → ¬ C w.heap.size → I xs C W → Q .normal a W)
    (hstop : ∀ C W, w.heap.size + 1 ≤ W.heap.size → ¬ C w.heap.size → Ix C W → Q .ret a W) :
    (Code.rangeFunc g ps assign body).wpIn (Fence.wide.inRound l₀) n P Q a w := by
  refine wpIn_rangeFunc fun fn hfn => ?_
  obtain ⟨R, hR⟩ : ∃ R : LoopState → Option Code → Loop, R = fun st pe => { state := st, pending := pe, fn, tmps := a.tmps, params := ps, assign, body, defers := r₀.defers } := ⟨_, rfl⟩
  have s1 : (w.alloc (.loop (R .ready none))).heap[w.heap.size]? = some (.loop (R .ready none)) := World.alloc_heap_new _ _
  have hb : Below w.heap.size w (w.alloc (.loop (R .ready none))) := (Below.refl _ w).alloc (Nat.le_refl _) _
  have hsz : (w.alloc (.loop (R .ready none))).heap.size = w.heap.size + 1 := by simp
  obtain ⟨W1, hW1⟩ : ∃ W1, w.alloc (.loop (R .ready none)) = W1 := ⟨_, rfl⟩
  rw [hW1] at s1 hb hsz
  have hlt0 := (hI []).lt _ _ h0
  have s3 : I [] C0 W1 := (hI []).keep _ _ _ h0 (.of_below hb)
  refine ⟨w.heap.size, [], W1, { target := .fn (.func gf) lb, args := #[.func (.yield w.heap.size) #[] #[]] }, W1, gf, #[.func (.yield w.heap.size) #[] #[]] ++ lb, W1, ?_, ?_, fun _ _ => trivial, ?_, fun h => (by cases h), ?_⟩
  · rw [← hW1, hR]; exact run_enterLoop_inner hl₀ _ _ _ _ _
  · simp only [resolve, hg]
    simp [go_sem]
  · simp [invoke, go_sem, eg]
  · refine callsIn_any ((hh w.heap.size
      (fun pre C'' W => ∃ C, (∀ k, C'' k ↔ (C k ∨ k = w.heap.size)) ∧ ¬ C w.heap.size ∧ I pre C W ∧ W.heap[w.heap.size]? = some (.loop (R .ready none)))
      (fun C'' W => ∃ C, (∀ k, C'' k ↔ (C k ∨ k = w.heap.size)) ∧ ¬ C w.heap.size ∧ Ix C W ∧ W.heap[w.heap.size]? = some (.loop (R .done (some .ret))))
      (fun k => C0 k ∨ k = w.heap.size) W1 ?_ ?_ ?_ (fun pre x C'' A hp h => by obtain ⟨C, _, _, hi, _⟩ := h; exact hRx pre x C A hp hi) (hRd W1 hb) ⟨C0, fun _ => Iff.rfl, fun h => by have := hlt0 _ h; omega, s3, s1⟩).mono ?_)
    · intro pre
      constructor
      · rintro C'' A ⟨C, hC, _, hi, h1⟩ k hk
        rcases (hC k).1 hk with q | rfl
        · exact (hI pre).lt _ _ hi k q
        · exact (Array.getElem?_eq_some_iff.1 h1).1
      · rintro C'' A A' ⟨C, hC, c1, hi, h1⟩ hk
        exact ⟨C, hC, c1, (hI pre).keep _ _ _ hi (hk.mono (by omega) (fun k q => (hC k).2 (.inl q))), (hk.block _ (Array.getElem?_eq_some_iff.1 h1).1 (.inl (by omega))).trans h1⟩
    · constructor
      · rintro C'' A ⟨C, hC, _, hi, h1⟩ k hk
        rcases (hC k).1 hk with q | rfl
        · exact hIx.lt _ _ hi k q
        · exact (Array.getElem?_eq_some_iff.1 h1).1
      · rintro C'' A A' ⟨C, hC, c1, hi, h1⟩ hk
        exact ⟨C, hC, c1, hIx.keep _ _ _ hi (hk.mono (by omega) (fun k q => (hC k).2 (.inl q))), (hk.block _ (Array.getElem?_eq_some_iff.1 h1).1 (.inl (by omega))).trans h1⟩
    · rintro pre x C'' A hpre ⟨C, hC, c1, hi, h1⟩
      have hlt := (Array.getElem?_eq_some_iff.1 h1).1
      have hy := run_yield (P := P) (args := encs x) h1 (by rw [hR]; exact hps x)
      rw [hR] at hy
      refine ⟨fn, _, assign, body, hy, roundIn_of_wpIn hfn (wpIn_mono (hround _ pre x C A (by omega) ⟨_, h1⟩ c1 hpre hi) ?_)⟩
      rintro e a1 A1 he
      cases e with
      | normal =>
        obtain ⟨hb1, hbody⟩ := he
        have h1' := (hb1.block _ hlt).trans h1
        have hlt1 := (Array.getElem?_eq_some_iff.1 h1').1
        refine ⟨_, run_beginRound h1' (by rw [hR]), wpIn_mono (hbody _ (swap_putObj _ hlt1)) ?_⟩
        have q1 := World.putObj_heap_same (o := .loop { R .ready none with state := .busy }) hlt1
        have fin : ∀ (jump : Option Code) (C' : Nat → Prop) (A3 : World), TurnC C C' (A1.putObj w.heap.size (.loop { R .ready none with state := .busy })) A3 →
            ¬ C' w.heap.size ∧ (Instr.endRound w.heap.size jump).run P A3 = .ok (.bool jump.isNone) (A3.putObj w.heap.size (.loop (R (if jump.isNone then .ready else .done) jump))) ∧
            TurnC C'' (fun k => C' k ∨ k = w.heap.size) A (A3.putObj w.heap.size (.loop (R (if jump.isNone then .ready else .done) jump))) ∧
            (A3.putObj w.heap.size (.loop (R (if jump.isNone then .ready else .done) jump))).heap[w.heap.size]? = some (.loop (R (if jump.isNone then .ready else .done) jump)) := by
          intro jump C' A3 ht
          have d1 : ¬ C' w.heap.size := fun h => by rcases ht.new _ h with q | q; exact c1 q; simp at q; omega
          have q3 := (ht.block _ (by simpa using hlt1) c1).trans q1
          have hr := run_endRound (P := P) jump q3
          have hlt3 := (Array.getElem?_eq_some_iff.1 q3).1
          refine ⟨d1, by rw [hR] at hr ⊢; exact hr, ?_, World.putObj_heap_same hlt3⟩
          have t1 : TurnC C'' (fun k => C k ∨ k = w.heap.size) A A1 := ⟨hb1.os, hb1.tape, hb1.output, hb1.size, fun k hk _ => hb1.block k hk, fun k hk => .inl ((hC k).2 hk)⟩
          exact ((t1.trans (TurnC.putObj _ _ (.inr rfl))).trans ht.wide).trans (TurnC.putObj _ _ (.inr rfl))
        rintro e3 a3 A3 hp
        cases e3 with
        | normal =>
          obtain ⟨C', ht, hi3⟩ := hp
          obtain ⟨d1, hr, t, f1⟩ := fin none C' A3 ht
          exact ⟨_, _, hr, _, t, .inl ⟨rfl, C', fun _ => Iff.rfl, d1, (hI _).keep _ _ _ hi3 (KeepC.putObj _ _ (by omega) d1), f1⟩⟩
        | ret =>
          obtain ⟨C', ht, hi3⟩ := hp
          obtain ⟨d1, hr, t, f1⟩ := fin (some .ret) C' A3 ht
          exact ⟨_, _, hr, _, t, .inr ⟨rfl, C', fun _ => Iff.rfl, d1, hIx.keep _ _ _ hi3 (KeepC.putObj _ _ (by omega) d1), f1⟩⟩
        | exit id => exact hp.elim
        | goto t => exact hp.elim
        | panic ch => exact hp.elim
        | outgrown => exact hp.elim
      | ret => exact he.elim
      | exit id => exact he.elim
      | goto t => exact he.elim
      | panic ch => exact he.elim
      | outgrown => exact he.elim
    · rintro e W2 ⟨⟨v, rfl⟩, C'', (⟨C, hC, c1, hi, h1⟩ | ⟨C, hC, c1, hi, h1⟩)⟩
      · have hlt := (Array.getElem?_eq_some_iff.1 h1).1
        exact ⟨none, _, by have := run_endLoop (P := P) h1 (by rw [hR]; simp); rw [hR] at this; exact this, hdone C _ (by simp; omega) c1 ((hI _).keep _ _ _ hi (KeepC.putObj _ _ (by omega) c1))⟩
      · have hlt := (Array.getElem?_eq_some_iff.1 h1).1
        exact ⟨some .ret, _, by have := run_endLoop (P := P) h1 (by rw [hR]; simp); rw [hR] at this; exact this, wpIn_ret' (hstop C _ (by simp; omega) c1 (hIx.keep _ _ _ hi (KeepC.putObj _ _ (by omega) c1)))⟩
theorem boxed_keepN {N b : Nat} {C : Nat → Prop} {A A' : World} {t : TypeId} {v : Value} (h : Boxed A b t v) (hk : KeepC N C A A') (hN : b < N) : Boxed A' b t v := (hk.block b h.lt (.inl hN)).trans h
theorem boxed_below {B b : Nat} {A A' : World} {t : TypeId} {v : Value} (h : Boxed A b t v) (hk : Below B A A') (hN : b < B) : Boxed A' b t v := (hk.block b hN).trans h
theorem keep_not {C C' : Nat → Prop} {A A' : World} (ht : TurnC C C' A A') {b : Nat} (hb : b < A.heap.size) (h : ¬ C b) : ¬ C' b := fun q => by
  rcases ht.new b q with q | q
  · exact h q
  · omega
theorem boxed_turn {C C' : Nat → Prop} {A A' : World} (ht : TurnC C C' A A') {b : Nat} {t : TypeId} {v : Value} (hb : Boxed A b t v) (h : ¬ C b) : Boxed A' b t v := (ht.block b hb.lt h).trans hb
theorem TurnC.keepN {C C' : Nat → Prop} {W A A' : World} {N : Nat} (h : TurnC C C' W A) (hk : KeepC N C' A A') (hN : W.heap.size ≤ N) : TurnC C C' W A' :=
  ⟨hk.os.trans h.os, hk.tape.trans h.tape, hk.output.trans h.output, Nat.le_trans h.size hk.size, fun k hlt hc => (hk.block k (Nat.lt_of_lt_of_le hlt h.size) (.inl (by omega))).trans (h.block k hlt hc), h.new⟩
theorem mem_of_pre {α : Type} {pre xs : List α} {x : α} (h : pre ++ [x] <+: xs) : x ∈ xs := h.subset (by simp)
theorem len_of_pre {α : Type} {pre xs : List α} {x : α} (h : pre ++ [x] <+: xs) : pre.length < xs.length := by have := h.length_le; simp at this; omega
def lay : World → List Obj → World
  | w, [] => w
  | w, o :: os => lay (w.alloc o) os
theorem lay_facts : ∀ (os : List Obj) (w : World), (lay w os).heap.size = w.heap.size + os.length ∧ Below w.heap.size w (lay w os) ∧ ∀ (i : Nat) (o : Obj), os[i]? = some o → (lay w os).heap[w.heap.size + i]? = some o := by
  intro os
  induction os with
  | nil => intro w; exact ⟨rfl, Below.refl _ _, fun i o h => by simp at h⟩
  | cons a os ih =>
    intro w
    obtain ⟨h1, h2, h3⟩ := ih (w.alloc a)
    rw [World.size_alloc] at h1 h2 h3
    refine ⟨by rw [lay, h1, List.length_cons]; omega, ((Below.refl _ w).alloc (Nat.le_refl _) a).trans (h2.mono (Nat.le_succ _)), fun i o h => ?_⟩
    cases i with
    | zero =>
      simp at h
      subst h
      exact (h2.block _ (Nat.lt_succ_self _)).trans (World.alloc_heap_new w a)
    | succ i =>
      have := h3 i o (by simpa using h)
      rw [lay]
      rw [← this]
      congr 1
      omega
theorem leave_ret {P : Program} {fn : Func} {R : Ending → World → Prop} {tmps : Array Value} {D n : Nat} {W : World} {v : Value} (hK : W.heap[D]? = some (.deferred (some [])))
    (hr : (results fn tmps).run P (W.putObj D (.deferred none)) = .ok v (W.putObj D (.deferred none))) (hR : R (.returned v) (W.putObj D (.deferred none))) :
    bodyPostM Fence.wide n P fn R .ret { tmps := tmps, defers := [{ target := .collected D, args := #[] }] } W :=
  ⟨by simp, .inl ⟨_, _, rfl, run_takeDeferred hK, ⟨v, hr, hR⟩⟩⟩
theorem leave_end {P : Program} {fn : Func} {R : Ending → World → Prop} {tmps : Array Value} {D n : Nat} {W : World} {v : Value} (hK : W.heap[D]? = some (.deferred (some [])))
    (hr : (results fn tmps).run P (W.putObj D (.deferred none)) = .ok v (W.putObj D (.deferred none))) (hR : R (.returned v) (W.putObj D (.deferred none))) :
    bodyPostM Fence.wide n P fn R .normal { tmps := tmps, defers := [{ target := .collected D, args := #[] }] } W :=
  ⟨by simp, .inl ⟨_, _, rfl, run_takeDeferred hK, ⟨v, hr, hR⟩⟩⟩
theorem boxed_put {W : World} {b D : Nat} {t : TypeId} {v : Value} {o : Obj} (h : Boxed W b t v) (hne : b ≠ D) : Boxed (W.putObj D o) b t v := (World.putObj_heap_other hne).trans h
theorem below_put {W w : World} {B D : Nat} {o : Obj} (h : Below B w W) (hD : B ≤ D) : Below B w (W.putObj D o) :=
  h.trans ⟨rfl, rfl, rfl, by simp, fun k hk => World.putObj_heap_other (by omega)⟩
theorem def_set {W : World} {b D : Nat} {v : Value} {o : Obj} (h : W.heap[D]? = some o) (hne : D ≠ b) : (W.setCell ⟨b, 0, none⟩ v).heap[D]? = some o := (Below.heap_setCell _ _ _ D hne).trans h
end Go.Proofs.YtfemboojdablhaaGreatDoor
namespace Go.Proofs.YtfemboojdablhaaGreatDoor
open Go.RowKit Go.Shelf
attribute [local go_sem] Oper.semAt_some
def revE {α : Type} (xs : List α) : List (Nat × α) := (xs.zipIdx.map (fun p => (p.2, p.1))).reverse
theorem revE_take {α : Type} {xs : List α} {i : Nat} (h : i < xs.length) : revE (xs.take (i + 1)) = (i, xs[i]) :: revE (xs.take i) := by
  unfold revE
  rw [List.take_add_one, List.getElem?_eq_getElem h]
  show ((xs.take i ++ [xs[i]]).zipIdx.map _).reverse = _
  rw [List.zipIdx_append, List.map_append, List.reverse_append, List.length_take, Nat.min_eq_left (Nat.le_of_lt h)]
  show [(0 + i, xs[i])] ++ _ = _
  rw [Nat.zero_add]
  rfl
theorem revE_nil {α : Type} : revE ([] : List α) = [] := rfl
theorem revE_mem {α : Type} {xs : List α} {x : Nat × α} (h : x ∈ revE xs) : xs[x.1]? = some x.2 := by
  unfold revE at h
  rw [List.mem_reverse, List.mem_map] at h
  obtain ⟨p, hp, rfl⟩ := h
  have := List.mem_zipIdx_iff_getElem?.1 hp
  simpa using this
def encIS (x : Nat × ByteArray) : Array Value := #[.int .i64 (x.1 : Int), .string x.2]
def encIB (x : Nat × Bool) : Array Value := #[.int .i64 (x.1 : Int), .bool x.2]
set_option maxRecDepth 100000 in
set_option maxHeartbeats 2000000 in
theorem backS_hands (b : Nat) (a : Option Addr) (cap : Nat) (xs : List ByteArray) (hn : xs.length ≤ 1000000) : HandsC Tryz.prog 191 #[.pointer (some ⟨b, 0, none⟩)] encIS (revE xs) (fun C W => Boxed W b 25 (.slice a xs.length cap) ∧ ¬ C b) (fun x A => ∃ g, a = some ⟨g, 0, none⟩ ∧ xs.length ≤ cap ∧ A.cell? ⟨g, x.1, none⟩ = some (.string x.2)) := by
  intro l J Jx C W hJ hJx hY hX hRd h0
  obtain ⟨hb, hCb⟩ := hRd
  have c0 := hb.cell
  refine callsIn_of_wp Tryz.func191 rfl trivial ?_ rfl
  simp only [Tryz.ntmps191, List.size_toArray, List.length_cons, List.length_nil, Nat.reduceAdd, Nat.reduceSub, Array.replicate_succ, Array.replicate_zero, List.push_toArray, List.append_toArray, List.nil_append, List.cons_append]
  gi_wp2
  clear c0
  gi_loopw [3] (fun kv wr => ∃ (i : Nat) (pre : List (Nat × ByteArray)) (C : Nat → Prop), kv = .int .i64 ((i : Int) - 1) ∧ i ≤ xs.length ∧ J pre C wr ∧ Boxed wr b 25 (.slice a xs.length cap) ∧ ¬ C b ∧ pre ++ revE (xs.take i) = revE xs) (fun kv _ => (intOf kv + 1).toNat)
  case atStart => exact ⟨xs.length, [], C, rfl, Nat.le_refl _, h0, hb, hCb, by simp⟩
  case round =>
    obtain ⟨i, pre, C, rfl, hi, hJ1, hb1, hC1, hpre⟩ := hrel
    have c1 := hb1.cell
    cases i with
    | zero =>
      rw [List.take_zero, revE_nil, List.append_nil] at hpre
      rw [hpre] at hJ1
      gi_wp2
      go_end0
      exact ⟨⟨_, rfl⟩, C, .inl hJ1⟩
    | succ i =>
      have hlt : i < xs.length := by omega
      obtain ⟨x, hx⟩ : ∃ x, xs[i] = x := ⟨_, rfl⟩
      rw [revE_take hlt, hx] at hpre
      have hp : pre ++ [(i, x)] <+: revE xs := ⟨_, by rw [List.append_assoc]; exact hpre⟩
      obtain ⟨fn, tmps, assign, body, hy, hR⟩ := hY pre (i, x) C wr hp hJ1
      obtain ⟨g, rfl, hcap, hcell⟩ := hX pre (i, x) C wr hp hJ1
      have hy : (Instr.yield l #[.int .i64 (i : Int), .string x]).run Tryz.prog wr = .ok (.round l fn tmps assign body) wr := hy
      have hcell : wr.cell? ⟨g, i, none⟩ = some (.string x) := hcell
      have HPRE := hide hpre
      clear hpre hp hx
      have e0 : ((i + 1 : Nat) : Int) - 1 = (i : Int) := by omega
      rw [e0]
      clear e0
      have h1 : (0 : Int) ≤ (i : Int) := by omega
      have h2 : (i : Int) < (xs.length : Int) := by omega
      gi_wp2_with (refine ⟨trivial, ?_⟩)
      refine ⟨rfl, hR.mono ?_⟩
      rintro e W3 ⟨C', ht, (⟨rfl, hj⟩ | ⟨rfl, hj⟩)⟩
      · have hC2 := keep_not ht hb1.lt hC1
        have hb2 := boxed_turn ht hb1 hC1
        clear ht
        gi_wp2
        case roundEnd =>
          refine ⟨⟨i, pre ++ [(i, x)], C', by simp, by omega, hj, hb2, hC2, by rw [List.append_assoc]; exact HPRE.out⟩, ?_⟩
          simp [intOf]
      · clear ht
        gi_wp2
        exact bodyPost_ret (results_none rfl _ _ _) rfl ⟨⟨_, rfl⟩, C', .inr hj⟩
set_option maxRecDepth 100000 in
set_option maxHeartbeats 2000000 in
theorem backB_hands (b : Nat) (a : Option Addr) (cap : Nat) (xs : List Bool) (hn : xs.length ≤ 1000000) : HandsC Tryz.prog 225 #[.pointer (some ⟨b, 0, none⟩)] encIB (revE xs) (fun C W => Boxed W b 83 (.slice a xs.length cap) ∧ ¬ C b) (fun x A => ∃ g, a = some ⟨g, 0, none⟩ ∧ xs.length ≤ cap ∧ A.cell? ⟨g, x.1, none⟩ = some (.bool x.2)) := by
  intro l J Jx C W hJ hJx hY hX hRd h0
  obtain ⟨hb, hCb⟩ := hRd
  have c0 := hb.cell
  refine callsIn_of_wp Tryz.func225 rfl trivial ?_ rfl
  simp only [Tryz.ntmps225, List.size_toArray, List.length_cons, List.length_nil, Nat.reduceAdd, Nat.reduceSub, Array.replicate_succ, Array.replicate_zero, List.push_toArray, List.append_toArray, List.nil_append, List.cons_append]
  gi_wp2
  clear c0
  gi_loopw [3] (fun kv wr => ∃ (i : Nat) (pre : List (Nat × Bool)) (C : Nat → Prop), kv = .int .i64 ((i : Int) - 1) ∧ i ≤ xs.length ∧ J pre C wr ∧ Boxed wr b 83 (.slice a xs.length cap) ∧ ¬ C b ∧ pre ++ revE (xs.take i) = revE xs) (fun kv _ => (intOf kv + 1).toNat)
  case atStart => exact ⟨xs.length, [], C, rfl, Nat.le_refl _, h0, hb, hCb, by simp⟩
  case round =>
    obtain ⟨i, pre, C, rfl, hi, hJ1, hb1, hC1, hpre⟩ := hrel
    have c1 := hb1.cell
    cases i with
    | zero =>
      rw [List.take_zero, revE_nil, List.append_nil] at hpre
      rw [hpre] at hJ1
      gi_wp2
      go_end0
      exact ⟨⟨_, rfl⟩, C, .inl hJ1⟩
    | succ i =>
      have hlt : i < xs.length := by omega
      obtain ⟨x, hx⟩ : ∃ x, xs[i] = x := ⟨_, rfl⟩
      rw [revE_take hlt, hx] at hpre
      have hp : pre ++ [(i, x)] <+: revE xs := ⟨_, by rw [List.append_assoc]; exact hpre⟩
      obtain ⟨fn, tmps, assign, body, hy, hR⟩ := hY pre (i, x) C wr hp hJ1
      obtain ⟨g, rfl, hcap, hcell⟩ := hX pre (i, x) C wr hp hJ1
      have hy : (Instr.yield l #[.int .i64 (i : Int), .bool x]).run Tryz.prog wr = .ok (.round l fn tmps assign body) wr := hy
      have hcell : wr.cell? ⟨g, i, none⟩ = some (.bool x) := hcell
      have HPRE := hide hpre
      clear hpre hp hx
      have e0 : ((i + 1 : Nat) : Int) - 1 = (i : Int) := by omega
      rw [e0]
      clear e0
      have h1 : (0 : Int) ≤ (i : Int) := by omega
      have h2 : (i : Int) < (xs.length : Int) := by omega
      gi_wp2_with (refine ⟨trivial, ?_⟩)
      refine ⟨rfl, hR.mono ?_⟩
      rintro e W3 ⟨C', ht, (⟨rfl, hj⟩ | ⟨rfl, hj⟩)⟩
      · have hC2 := keep_not ht hb1.lt hC1
        have hb2 := boxed_turn ht hb1 hC1
        clear ht
        gi_wp2
        case roundEnd =>
          refine ⟨⟨i, pre ++ [(i, x)], C', by simp, by omega, hj, hb2, hC2, by rw [List.append_assoc]; exact HPRE.out⟩, ?_⟩
          simp [intOf]
      · clear ht
        gi_wp2
        exact bodyPost_ret (results_none rfl _ _ _) rfl ⟨⟨_, rfl⟩, C', .inr hj⟩
end Go.Proofs.YtfemboojdablhaaGreatDoor
namespace Go.Proofs.YtfemboojdablhaaGreatDoor
open Go.RowKit
def endsSlash (s : ByteArray) : Bool := decide (s.data.toList.getLast? = some 47)
def joinS (a b : ByteArray) : ByteArray := if a.toList.isEmpty || endsSlash a then a ++ b else a ++ ⟨#[47]⟩ ++ b
theorem ends_get {a : ByteArray} (h : 1 ≤ a.size) : endsSlash a = decide ((a[a.size - 1].toNat : Int) = 47) := by
  unfold endsSlash
  congr 1
  rw [List.getLast?_eq_getElem?, size_list, List.getElem?_eq_getElem (by simp; omega)]
  have e : a.data.toList[a.size - 1]'(by simp; omega) = a[a.size - 1] := rfl
  rw [e, Option.some.injEq, eq_iff_iff]
  constructor
  · intro h; rw [h]; rfl
  · intro h; exact UInt8.toNat_inj.1 (by have : (47 : UInt8).toNat = 47 := rfl; omega)
theorem joinS_size (a b : ByteArray) : (joinS a b).size ≤ a.size + b.size + 1 := by
  unfold joinS
  cases (a.toList.isEmpty || endsSlash a)
  · simp only [Bool.false_eq_true, if_false]
    rw [ByteArray.size_append, ByteArray.size_append]
    show a.size + 1 + b.size ≤ _
    omega
  · simp only [if_true]
    rw [ByteArray.size_append]; omega
end Go.Proofs.YtfemboojdablhaaGreatDoor
