import Derived.Test.YtfemboojdablhaaGreatDoorMi27
import Derived.Lib.Strings
import Derived.Lib.Slices
import Derived.Lib.Walk
import Derived.Lib.Bytealg
import Derived.RangeFuncBox
import Derived.RangeFuncWrites
import Derived.RangeFuncLeaves
import Derived.RangeFuncBound
import Derived.RangeFuncCalls
import Derived.Shelf.Abstract
import Derived.WalkKit
import Derived.OwnWalkIn
import Derived.TacticsInMore
import Derived.LoopNIn
import Derived.LoopIn
namespace Go.Proofs.YtfemboojdablhaaGreatDoor.Tre
open Go.RowKit
def idxS (r : ByteArray) : Int := Lib.indexByte r.data.toList 47
theorem idx_cases (c : UInt8) (l : List UInt8) : (Lib.indexByte l c = -1 ∧ c ∉ l) ∨ ∃ p r, l = p ++ c :: r ∧ c ∉ p ∧ Lib.indexByte l c = (p.length : Int) := by
  induction l with
  | nil => exact .inl ⟨rfl, by simp⟩
  | cons b l ih =>
    by_cases hb : b = c
    · subst hb
      exact .inr ⟨[], l, rfl, by simp, by simp [Lib.indexByte]⟩
    · have hbb : (b == c) = false := by simpa using hb
      rcases ih with ⟨h1, h2⟩ | ⟨p, r, rfl, h2, h3⟩
      · exact .inl ⟨by simp [Lib.indexByte, hbb, h1], by simp [h2]; exact fun e => hb e.symm⟩
      · refine .inr ⟨b :: p, r, rfl, by simp [h2]; exact fun e => hb e.symm, ?_⟩
        have hne : ¬ ((p.length : Int) = -1) := by omega
        simp [Lib.indexByte, hbb, h3, hne]
theorem idxS_cases (r : ByteArray) : (idxS r = -1 ∧ (47 : UInt8) ∉ r.data.toList) ∨ ∃ p t : List UInt8, r.data.toList = p ++ 47 :: t ∧ (47 : UInt8) ∉ p ∧ idxS r = (p.length : Int) := idx_cases 47 r.data.toList
set_option maxHeartbeats 1000000 in
set_option maxRecDepth 100000 in
theorem indexByte_any (s : ByteArray) (c : Int) (w : World) :
    Calls Tryz.prog 252 #[.string s, .int .u8 c] w fun e w' => e = .returned (.int .i64 (Lib.indexByte s.data.toList c.toNat.toUInt8)) ∧ w' = w := by
  go_enter Tryz.func252, Tryz.ntmps252
  go_wp2
  rw [run_callFunc_extern Tryz.func275 (by kernel_rfl) (by kernel_rfl) (by kernel_rfl) (e := Extern.BytealgIndexByte.indexByte) (by kernel_rfl), Lib.run_indexByteString]
  simp only [Result.andThen]
  rw [Oper.upon_value]
  go_wp2
  go_ret
  exact ⟨rfl, rfl⟩
set_option maxHeartbeats 2000000 in
set_option maxRecDepth 100000 in
theorem indexLite_any (s : ByteArray) (w : World) :
    Calls Tryz.prog 221 #[.string s, .string ⟨#[47]⟩] w fun e w' => e = .returned (.int .i64 (idxS s)) ∧ w' = w := by
  go_enter Tryz.func221, Tryz.ntmps221
  go_wp2_with (go_at_call 252; refine (indexByte_any _ _ _).mono ?_; rintro e w' ⟨rfl, rfl⟩)
  · have h : ([47] == s.toList) = true := by assumption
    go_ret
    refine ⟨?_, rfl⟩
    have e : s.data.toList = [47] := by rw [← Lib.toList_data]; exact (beq_iff_eq.1 h).symm
    unfold idxS
    rw [e]
    simp [Lib.indexByte]
  · go_ret
    exact ⟨rfl, rfl⟩
set_option maxHeartbeats 1000000 in
theorem index_any (s : ByteArray) (w : World) :
    Calls Tryz.prog 184 #[.string s, .string ⟨#[47]⟩] w fun e w' => e = .returned (.int .i64 (idxS s)) ∧ w' = w := by
  go_enter Tryz.func184, Tryz.ntmps184
  go_wp2_with (go_at_call 221; refine (indexLite_any _ _).mono ?_; rintro e w' ⟨rfl, rfl⟩)
  go_ret
  exact ⟨rfl, rfl⟩
end Go.Proofs.YtfemboojdablhaaGreatDoor.Tre
namespace Go.Proofs.YtfemboojdablhaaGreatDoor.Tre
open Go.RowKit
def SeqBox {α : Type} (F : Fence) (n : Nat) (P : Program) (gf : Nat) (lb : Array Value) (encs : α → Array Value) (Kp : World → World → Prop) (S : List α → Prop) (N bx : Nat) (w : World) : Prop :=
  ∀ (l : Nat) (J : List α → World → Prop) (W : World), Below w.heap.size w W → (∀ s A v, J s A → J s (A.setCell ⟨bx, 0, none⟩ v)) →
    (∀ pre x W1, J pre W1 → pre.length < N → YieldAt F (n - 1) P l (encs x) W1 fun e W' => (e = .returned (.bool true) ∧ J (pre ++ [x]) W' ∧ Kp W1 W')) →
    J [] W → CallsIn F n P gf (#[.func (.yield l) #[] #[]] ++ lb) W fun e W' => (∃ v, e = .returned v) ∧ ∃ xs, S xs ∧ J xs W'
theorem set_block (A : World) (bx k : Nat) (v : Value) (o : Obj) (hne : k ≠ bx) (h : A.heap[k]? = some o) : (A.setCell ⟨bx, 0, none⟩ v).heap[k]? = some o :=
  ((grownBy_setCell' A bx v).block k (Array.getElem?_eq_some_iff.1 h).1 (fun e => hne (Option.some.inj e))).trans h
theorem wpIn_range_box {F : Fence} {n : Nat} {P : Program} {α : Type} {g : Operand} {ps : Array Tmp} {assign body : Code} {Q : Exit → Act → World → Prop} {a : Act} {w : World}
    (hro : F.round = none) (h1 : 1 ≤ n) {gf : Nat} {lb : Array Value} (hg : a.eval g = .func (.func gf) #[] lb) (hFg : F.fn gf) (eg : ∀ args w, (callFunc gf args).run P w = .ok (.enter gf args) w)
    {encs : α → Array Value} {Kp : World → World → Prop} {S : List α → Prop} {N bx : Nat} (hbx : bx < w.heap.size) (hseq : SeqBox F (n - 1) P gf lb encs Kp S N bx w)
    (hKt : ∀ {A B C : World}, Kp A B → Kp B C → Kp A C) (hKb : ∀ (W : World) (l : Nat) (o o' : Obj), w.heap.size ≤ l → W.heap[l]? = some o → Kp W (W.putObj l o')) (hps : ∀ x, (encs x).size = ps.size)
    (I : List α → World → Prop) (hI : OwnFrom w.heap.size I) (hIs : ∀ s A v, I s A → I s (A.setCell ⟨bx, 0, none⟩ v)) (h0 : I [] w) (a₁ : α → Act)
    (hassign : ∀ (l : Nat) (x : α) (W : World) (K : Act → World → Prop), K (a₁ x) W →
      assign.wpIn (F.inRound l) (n - 1 - 1) P (Exit.then K (fun _ _ _ => False)) { tmps := (ps.zip (encs x)).foldl (fun t (p, v) => t.setIfInBounds p v) a.tmps, defers := [] } W)
    (hbody : ∀ (l : Nat) (pre : List α) (x : α) (W : World), I pre W → pre.length < N → body.wpIn (F.inRound l) (n - 1 - 1) P (ownPostG w.heap.size Kp I (fun _ _ _ => False) (pre ++ [x]) W) (a₁ x) W)
    (hdone : ∀ (D : Nat) (xs : List α) (W : World), w.heap.size ≤ D → S xs → I xs W → W.heap[D]? = some (.deferred (some [])) → Q .normal { a with defers := { target := .collected D, args := #[] } :: a.defers } W) :
    (Code.rangeFunc g ps assign body).wpIn F n P Q a w := by
  refine wpIn_rangeFunc ?_
  intro fn hfn
  rw [hro]
  obtain ⟨rec, hrec⟩ : ∃ rec : LoopState → Option Code → Loop, rec = fun st pe => { state := st, pending := pe, fn, tmps := a.tmps, params := ps, assign, body, defers := w.heap.size } := ⟨_, rfl⟩
  obtain ⟨W1, hW1⟩ : ∃ W1, (w.alloc (.deferred (some []))).alloc (.loop (rec .ready none)) = W1 := ⟨_, rfl⟩
  have hL1 : W1.heap[w.heap.size + 1]? = some (.loop (rec .ready none)) := by
    rw [← hW1]; have := World.alloc_heap_new (w.alloc (.deferred (some []))) (.loop (rec .ready none)); rwa [World.size_alloc] at this
  have hK1 : W1.heap[w.heap.size]? = some (.deferred (some [])) := by
    rw [← hW1]; exact (Below.heap_alloc _ _ _ (by simp)).trans (World.alloc_heap_new w _)
  have hI1 : I [] W1 := by rw [← hW1]; exact hI.alloc _ (hI.alloc _ h0)
  have hb1 : Below w.heap.size w W1 := by
    rw [← hW1]; exact (((Below.refl _ w).alloc (Nat.le_refl _) _).alloc (by simp) _)
  refine ⟨w.heap.size + 1, [{ target := .collected w.heap.size, args := #[] }], W1, { target := .fn (.func gf) lb, args := #[.func (.yield (w.heap.size + 1)) #[] #[]] }, W1, gf,
    #[.func (.yield (w.heap.size + 1)) #[] #[]] ++ lb, W1, ?_, ?_, ?_, ?_, fun _ => h1, ?_⟩
  · rw [← hW1, hrec]; exact run_enterLoop_outer _ _ _ _ _
  · simp only [resolve, hg]
    simp [go_sem]
  · intro f' hf'; simp [Target.leads] at hf'; subst hf'; exact hFg
  · simp [invoke, go_sem, eg]
  · refine (hseq (w.heap.size + 1)
      (fun pre W => I pre W ∧ W.heap[w.heap.size + 1]? = some (.loop (rec .ready none)) ∧ W.heap[w.heap.size]? = some (.deferred (some [])))
      W1 hb1
      (fun s A v hs => ⟨hIs s A v hs.1, set_block A bx _ v _ (by omega) hs.2.1, set_block A bx _ v _ (by omega) hs.2.2⟩)
      ?_ ⟨hI1, hL1, hK1⟩).mono ?_
    · rintro pre x W ⟨hi, hl, hk⟩ hlen
      have hlt : w.heap.size + 1 < W.heap.size := (Array.getElem?_eq_some_iff.1 hl).1
      have hy := run_yield (P := P) (args := encs x) hl (by rw [hrec]; exact hps x)
      rw [hrec] at hy
      refine ⟨fn, _, assign, body, hy, roundIn_of_wpIn hfn (hassign _ x W _ ⟨_, run_beginRound hl (by rw [hrec]), ?_⟩)⟩
      have hl2 : (W.putObj (w.heap.size + 1) (.loop { rec .ready none with state := .busy })).heap[w.heap.size + 1]? = some (.loop { rec .ready none with state := .busy }) := World.putObj_heap_same hlt
      have hk2 : (W.putObj (w.heap.size + 1) (.loop { rec .ready none with state := .busy })).heap[w.heap.size]? = some (.deferred (some [])) := (World.putObj_heap_other (by omega)).trans hk
      have hw2 : Kp W (W.putObj (w.heap.size + 1) (.loop { rec .ready none with state := .busy })) := hKb _ _ _ _ (by omega) hl
      refine wpIn_mono (hbody _ pre x _ (hI.putObj _ hi (by omega) hl rfl) hlen) ?_
      rintro e a3 W3 hp
      cases e with
      | normal =>
        obtain ⟨hk3, hkp3, hi3⟩ := hp
        have hl3 := hk3.same _ _ (by omega) hl2 rfl
        have hr := run_endRound (P := P) none hl3
        have hl4 : (W3.putObj (w.heap.size + 1) (.loop (rec .ready none))).heap[w.heap.size + 1]? = some (.loop (rec .ready none)) := World.putObj_heap_same (Array.getElem?_eq_some_iff.1 hl3).1
        have hk4 : (W3.putObj (w.heap.size + 1) (.loop (rec .ready none))).heap[w.heap.size]? = some (.deferred (some [])) := (World.putObj_heap_other (by omega)).trans (hk3.same _ _ (Nat.le_refl _) hk2 rfl)
        have hi4 : I (pre ++ [x]) (W3.putObj (w.heap.size + 1) (.loop (rec .ready none))) := hI.putObj _ hi3 (by omega) hl3 rfl
        have hkp4 : Kp W (W3.putObj (w.heap.size + 1) (.loop (rec .ready none))) := hKt (hKt hw2 hkp3) (hKb _ _ _ _ (by omega) hl3)
        rw [hrec] at hr hl4 hk4 hi4 hkp4 ⊢
        exact ⟨_, _, hr, rfl, ⟨hi4, hl4, hk4⟩, hkp4⟩
      | ret => exact hp.2.elim
      | exit id => exact hp.2.elim
      | goto t => exact hp.2.elim
      | panic ch => exact hp.elim
      | outgrown => exact hp.elim
    · rintro e W2 ⟨⟨v, rfl⟩, xs, hS, hi, hl, hk⟩
      exact ⟨none, _, by have := run_endLoop (P := P) hl (by rw [hrec]; simp); rw [hrec] at this; exact this, hdone _ xs _ (Nat.le_refl _) hS (hI.putObj _ hi (by omega) hl rfl) ((World.putObj_heap_other (by omega)).trans hk)⟩
end Go.Proofs.YtfemboojdablhaaGreatDoor.Tre
namespace Go.Proofs.YtfemboojdablhaaGreatDoor.Tre
open Go.RowKit Go.Shelf
attribute [local go_sem] Oper.semAt_some
theorem cutS_miss {r : ByteArray} (h : (47 : UInt8) ∉ r.data.toList) : cutS 47 r = [r] := by
  unfold cutS; rw [split_end 47 _ h]; rfl
theorem cutS_hit {r : ByteArray} {p t : List UInt8} (h : r.data.toList = p ++ 47 :: t) (hp : (47 : UInt8) ∉ p) : cutS 47 r = r.extract 0 p.length :: cutS 47 (r.extract (p.length + 1) r.size) := by
  have e1 : r.extract 0 p.length = bs p := by rw [extract_bs, h]; simp
  have e2 : r.extract (p.length + 1) r.size = bs t := by
    rw [extract_bs, ← size_list r, h]
    congr 1
    rw [List.drop_append, List.drop_of_length_le (by omega), show p.length + 1 - p.length = 1 from by omega]
    simp only [List.drop_succ_cons, List.drop_zero, List.nil_append]
    exact List.take_of_length_le (by simp; omega)
  unfold cutS
  rw [e1, e2, h, split_hit 47 p t hp, data_bs]
  rfl
theorem cutS_ne (r : ByteArray) : 1 ≤ (cutS 47 r).length := by
  unfold cutS
  rw [List.length_map]
  cases e : splitL 47 r.data.toList with
  | nil => exact absurd e (split_ne _ _)
  | cons p ps => simp
def boxLen (W : World) (b : Nat) : Nat := match W.cell? ⟨b, 0, none⟩ with
  | some (.string r) => r.size
  | _ => 0
theorem boxLen_of {W : World} {b t : Nat} {r : ByteArray} (h : Boxed W b t (.string r)) : boxLen W b = r.size := by
  unfold boxLen; rw [h.cell]
def KeepBoxes (b1 b2 b3 : Nat) (W W' : World) : Prop := ∀ k, (k = b1 ∨ k = b2 ∨ k = b3) → W'.heap[k]? = W.heap[k]?
set_option maxRecDepth 100000 in
set_option maxHeartbeats 1000000 in
theorem split1_in (n : Nat) (hn : 1 ≤ n) (l b1 b2 b3 : Nat) (h12 : b1 ≠ b2) (h13 : b1 ≠ b3) (s : ByteArray) (hs : s.size ≤ 1073741824) (J : List ByteArray → World → Prop)
    (hJs : ∀ p A v, J p A → J p (A.setCell ⟨b1, 0, none⟩ v))
    (hY : ∀ pre x W1, J pre W1 → pre.length < (cutS 47 s).length → YieldAt Fence.wide (n - 1) Tryz.prog l #[.string x] W1 fun e W' => (e = .returned (.bool true) ∧ J (pre ++ [x]) W' ∧ KeepBoxes b1 b2 b3 W1 W'))
    (W : World) (hb1 : Boxed W b1 9 (.string s)) (hb2 : Boxed W b2 9 (.string ⟨#[47]⟩)) (hb3 : Boxed W b3 3 (.int .i64 0)) (h0 : J [] W) :
    CallsIn Fence.wide n Tryz.prog 182 #[.func (.yield l) #[] #[], .pointer (some ⟨b2, 0, none⟩), .pointer (some ⟨b1, 0, none⟩), .pointer (some ⟨b3, 0, none⟩)] W fun e W' => (∃ v, e = .returned v) ∧ ∃ xs, xs = cutS 47 s ∧ J xs W' := by
  have hc2 := hb2.cell
  refine callsIn_of_wp Tryz.func182 rfl trivial ?_ rfl
  simp only [Tryz.ntmps182, List.size_toArray, List.length_cons, List.length_nil, Nat.reduceAdd, Nat.reduceSub, Array.replicate_succ, Array.replicate_zero, List.push_toArray, List.append_toArray, List.nil_append, List.cons_append]
  gi_wp2
  gi_loopw [7] (fun _ wr => ∃ (pre : List ByteArray) (r : ByteArray), Boxed wr b1 9 (.string r) ∧ Boxed wr b2 9 (.string ⟨#[47]⟩) ∧ Boxed wr b3 3 (.int .i64 0) ∧ cutS 47 s = pre ++ cutS 47 r ∧ r.size ≤ s.size ∧ J pre wr)
    (fun _ wr => boxLen wr b1)
  case atStart => exact ⟨[], s, hb1, hb2, hb3, rfl, Nat.le_refl _, h0⟩
  case round =>
    obtain ⟨pre, r, g1, g2, g3, hcut, hsz, hJ⟩ := hrel
    have c1 := g1.cell
    have c2 := g2.cell
    have c3 := g3.cell
    have f1 := g1.frozen
    have hlen : pre.length < (cutS 47 s).length := by rw [hcut, List.length_append]; have := cutS_ne r; omega
    rcases idxS_cases r with ⟨hi, hno⟩ | ⟨p, t, hr, hp, hi⟩
    · have HC : Hid (cutS 47 s = pre ++ [r]) := by rw [hcut, cutS_miss hno]; rfl
      obtain ⟨fn, tmps, assign, body, hy, hR⟩ := hY pre r wr hJ hlen
      clear hcut hno
      gi_wp2_with (refine ⟨trivial, ?_⟩; gi_at_call 184; refine (callsIn_wide.2 (index_any _ _)).mono ?_; rintro e w' ⟨rfl, rfl⟩)
      refine hR.mono ?_
      rintro e W3 ⟨rfl, hJ3, hk3⟩
      gi_wp2
      go_end0
      exact ⟨⟨_, rfl⟩, _, HC.out.symm, hJ3⟩
    · have hrs : r.size = p.length + (t.length + 1) := by rw [← size_list r, hr]; simp
      have HC : Hid (cutS 47 s = (pre ++ [r.extract 0 p.length]) ++ cutS 47 (r.extract (p.length + 1) r.size)) := by
        unfold Hid
        rw [hcut, cutS_hit hr hp, List.append_assoc]; rfl
      have hsz2 : (r.extract (p.length + 1) r.size).size ≤ s.size := by simp; omega
      have hsz3 : (r.extract (p.length + 1) r.size).size < r.size := by simp; omega
      have hpl : p.length < r.size := by omega
      have HR : Hid (r.size = p.length + (t.length + 1)) := hrs
      obtain ⟨fn, tmps, assign, body, hy, hR⟩ := hY pre (r.extract 0 p.length) wr hJ hlen
      clear hcut hr hp hrs
      gi_wp2_with (refine ⟨trivial, ?_⟩; gi_at_call 184; refine (callsIn_wide.2 (index_any _ _)).mono ?_; rintro e w' ⟨rfl, rfl⟩)
      refine hR.mono ?_
      rintro e W3 ⟨rfl, hJ3, hk3⟩
      have k1 : Boxed W3 b1 9 (.string r) := (hk3 b1 (.inl rfl)).trans g1
      have k2 : Boxed W3 b2 9 (.string ⟨#[47]⟩) := (hk3 b2 (.inr (.inl rfl))).trans g2
      have k3 : Boxed W3 b3 3 (.int .i64 0) := (hk3 b3 (.inr (.inr rfl))).trans g3
      have d1 := k1.cell
      have d2 := k2.cell
      have d3 := k3.cell
      have e1 := k1.frozen
      gi_wp2
      go_roundw
      case rel => exact ⟨_, _, k1.set _, k2.kept (grownBy_setCell' W3 b1 _) (fun e => h12 (Option.some.inj e).symm), k3.kept (grownBy_setCell' W3 b1 _) (fun e => h13 (Option.some.inj e).symm), HC.out, hsz2, hJs _ _ _ hJ3⟩
      case measure => rw [boxLen_of (k1.set _), boxLen_of g1]; exact hsz3
set_option maxHeartbeats 1000000 in
theorem splitSeq_in (n : Nat) (s sep : ByteArray) (w : World) :
    CallsIn Fence.wide n Tryz.prog 146 #[.string s, .string sep, .int .i64 0] w fun e w' => e = .returned (.func (.func 182) #[] #[.pointer (some ⟨w.heap.size + 1, 0, none⟩), .pointer (some ⟨w.heap.size, 0, none⟩), .pointer (some ⟨w.heap.size + 2, 0, none⟩)]) ∧ w' = ((w.alloc (.cells #[.string s] 9)).alloc (.cells #[.string sep] 9)).alloc (.cells #[.int .i64 0] 3) := by
  refine callsIn_of_wp Tryz.func146 rfl trivial ?_ rfl
  simp only [Tryz.ntmps146, List.size_toArray, List.length_cons, List.length_nil, Nat.reduceAdd, Nat.reduceSub, Array.replicate_succ, Array.replicate_zero, List.push_toArray, List.append_toArray, List.nil_append, List.cons_append]
  gi_wp2
  go_ret
  exact ⟨rfl, rfl⟩
set_option maxHeartbeats 1000000 in
theorem SplitSeq_in (n : Nat) (hn : 1 ≤ n) (s sep : ByteArray) (w : World) :
    CallsIn Fence.wide n Tryz.prog 123 #[.string s, .string sep] w fun e w' => e = .returned (.func (.func 182) #[] #[.pointer (some ⟨w.heap.size + 1, 0, none⟩), .pointer (some ⟨w.heap.size, 0, none⟩), .pointer (some ⟨w.heap.size + 2, 0, none⟩)]) ∧ w' = ((w.alloc (.cells #[.string s] 9)).alloc (.cells #[.string sep] 9)).alloc (.cells #[.int .i64 0] 3) := by
  refine callsIn_of_wp Tryz.func123 rfl trivial ?_ rfl
  simp only [Tryz.ntmps123, List.size_toArray, List.length_cons, List.length_nil, Nat.reduceAdd, Nat.reduceSub, Array.replicate_succ, Array.replicate_zero, List.push_toArray, List.append_toArray, List.nil_append, List.cons_append]
  gi_wp2_with (refine ⟨trivial, ?_⟩; gi_at_call 146; refine (splitSeq_in _ _ _ _).mono ?_; rintro e w' ⟨rfl, rfl⟩)
  go_ret
  exact ⟨rfl, rfl⟩
theorem split_seq (n : Nat) (hn : 1 ≤ n) (b1 b2 b3 : Nat) (h12 : b1 ≠ b2) (h13 : b1 ≠ b3) (s : ByteArray) (hs : s.size ≤ 1073741824) (w : World) (hb1 : Boxed w b1 9 (.string s)) (hb2 : Boxed w b2 9 (.string ⟨#[47]⟩)) (hb3 : Boxed w b3 3 (.int .i64 0)) :
    SeqBox Fence.wide n Tryz.prog 182 #[.pointer (some ⟨b2, 0, none⟩), .pointer (some ⟨b1, 0, none⟩), .pointer (some ⟨b3, 0, none⟩)] (fun x : ByteArray => #[Value.string x]) (KeepBoxes b1 b2 b3) (fun xs => xs = cutS 47 s) (cutS 47 s).length b1 w :=
  fun l J W hW hJs hY h0 => split1_in n hn l b1 b2 b3 h12 h13 s hs J hJs hY W ((hW.block b1 hb1.lt).trans hb1) ((hW.block b2 hb2.lt).trans hb2) ((hW.block b3 hb3.lt).trans hb3) h0
end Go.Proofs.YtfemboojdablhaaGreatDoor.Tre
namespace Go.Proofs.YtfemboojdablhaaGreatDoor.Tre
open Go.RowKit Go.Shelf
attribute [local go_sem] Oper.semAt_some
theorem row_not {B n k : Nat} {W : World} {v : Value} {xs : List Value} (h : W.ownsRow B 9 1 v n xs) (hk : k < B) : some k ≠ v.ownBlock := by
  intro e
  have := (h.lt k e.symm).1
  omega
theorem filter_hit (pre : List ByteArray) {x : ByteArray} (h : x.toList.isEmpty = false) : (pre ++ [x]).filter keep = pre.filter keep ++ [x] := by
  have : keep x = true := by unfold keep; rw [h]; rfl
  simp [List.filter_append, this]
theorem filter_miss (pre : List ByteArray) {x : ByteArray} (h : x.toList.isEmpty = true) : (pre ++ [x]).filter keep = pre.filter keep := by
  have : keep x = false := by unfold keep; rw [h]; rfl
  simp [List.filter_append, this]
theorem push_box {W w1 : World} {b0 : Nat} {v v' : Value} {k m : Nat} {xs ys : List Value} {tmp : Obj} (hsz : b0 + 4 ≤ W.heap.size)
    (hv : Boxed W b0 25 v) (hrow : W.ownsRow (b0 + 4) 9 1 v k xs) (hown' : w1.ownsRow (b0 + 4) 9 1 v' m ys) (hgrow : (W.alloc tmp).grownBy w1 v.ownBlock) :
    Boxed w1 b0 25 v ∧ Boxed (w1.setCell ⟨b0, 0, none⟩ v') b0 25 v' ∧ (w1.setCell ⟨b0, 0, none⟩ v').ownsRow (b0 + 4) 9 1 v' m ys ∧ KeepsOthers W (w1.setCell ⟨b0, 0, none⟩ v') ∧ Below b0 W (w1.setCell ⟨b0, 0, none⟩ v') ∧ KeepBoxes (b0 + 1) (b0 + 2) (b0 + 3) W (w1.setCell ⟨b0, 0, none⟩ v') := by
  obtain ⟨a1, a2, _, a4, a5⟩ := hv.appended (by decide) (owns_base (by omega) hrow) (show b0 ≤ W.heap.size by omega) (Nat.le_refl _) (owns_base (B := b0) (by omega) hown') hgrow
  refine ⟨a1, a2, hown'.kept (grownBy_setCell' w1 b0 v') (.inr (row_not hown' (by omega)).symm), a4, a5, ?_⟩
  intro j hj
  have hj1 : b0 < j ∧ j < b0 + 4 := by omega
  have e1 := (grownBy_setCell' w1 b0 v').block j (by have := hgrow.size; simp at this; omega) (by simp; omega)
  have e2 := hgrow.block j (by simp; omega) (row_not hrow hj1.2)
  rw [e1, e2]
  exact (World.grownBy_alloc W tmp none).block j (by omega) (by simp)
set_option maxRecDepth 100000 in
set_option maxHeartbeats 2000000 in
theorem parts_in (n : Nat) (hn : 4 ≤ n) (s : ByteArray) (hs : s.size ≤ 1073741824) (w : World) :
    CallsIn Fence.wide n Tryz.prog 118 #[.string s] w fun e W' => ∃ v, e = .returned v ∧ W'.ownsRow w.heap.size 9 1 v (partsS s).length ((partsS s).map Value.string) ∧ Below w.heap.size w W' := by
  have h1 : 1 ≤ n := by omega
  have hcl := cutS_length 47 s
  obtain ⟨i0, hi, hz0, hz1, hz2⟩ := info_parts Tryz.info9
  refine callsIn_of_wp_marks Tryz.func118 rfl trivial ?_ rfl
  simp only [Tryz.ntmps118, List.size_toArray, List.length_cons, List.length_nil, Nat.reduceAdd, Nat.reduceSub, Array.replicate_succ, Array.replicate_zero, List.push_toArray, List.append_toArray, List.nil_append, List.cons_append]
  gi_wp2_with (refine ⟨trivial, ?_⟩; gi_at_call 123; refine (SplitSeq_in (n - 1) (by omega) _ _ _).mono ?_; rintro e w' ⟨rfl, rfl⟩)
  obtain ⟨w4, hw4⟩ : ∃ w4, (((w.alloc (.cells #[.slice none 0 0] 25)).alloc (.cells #[.string s] 9)).alloc (.cells #[.string ⟨#[47]⟩] 9)).alloc (.cells #[.int .i64 0] 3) = w4 := ⟨_, rfl⟩
  rw [hw4]
  have bO : Boxed w4 w.heap.size 25 (.slice none 0 0) := by rw [← hw4]; exact (((Boxed.new w 25 (.slice none 0 0)).alloc _).alloc _).alloc _
  have bS : Boxed w4 (w.heap.size + 1) 9 (.string s) := by
    rw [← hw4]
    have := Boxed.new (w.alloc (.cells #[.slice none 0 0] 25)) 9 (.string s)
    rw [World.size_alloc] at this
    exact (this.alloc _).alloc _
  have bP : Boxed w4 (w.heap.size + 2) 9 (.string ⟨#[47]⟩) := by
    rw [← hw4]
    have := Boxed.new ((w.alloc (.cells #[.slice none 0 0] 25)).alloc (.cells #[.string s] 9)) 9 (.string ⟨#[47]⟩)
    rw [World.size_alloc, World.size_alloc] at this
    exact this.alloc _
  have bQ : Boxed w4 (w.heap.size + 3) 3 (.int .i64 0) := by
    rw [← hw4]
    have := Boxed.new (((w.alloc (.cells #[.slice none 0 0] 25)).alloc (.cells #[.string s] 9)).alloc (.cells #[.string ⟨#[47]⟩] 9)) 3 (.int .i64 0)
    rw [World.size_alloc, World.size_alloc, World.size_alloc] at this
    exact this
  have hB0 : Below w.heap.size w w4 := by
    rw [← hw4]; exact ((((Below.refl _ w).alloc (Nat.le_refl _) _).alloc (by simp) _).alloc (by simp; omega) _).alloc (by simp; omega) _
  have hsz4 : w4.heap.size = w.heap.size + 4 := by rw [← hw4]; simp
  clear hw4
  refine wpIn_range_box rfl h1 (gf := 182) (lb := #[.pointer (some ⟨w.heap.size + 2, 0, none⟩), .pointer (some ⟨w.heap.size + 1, 0, none⟩), .pointer (some ⟨w.heap.size + 3, 0, none⟩)]) rfl trivial (enters_of Tryz.func182 (by kernel_rfl) rfl)
    (bx := w.heap.size + 1) (by omega) (split_seq (n - 1) (by omega) (w.heap.size + 1) (w.heap.size + 2) (w.heap.size + 3) (by omega) (by omega) s hs w4 bS bP bQ)
    (fun {A B C} h k j hj => (k j hj).trans (h j hj)) (fun W l o o' hl _ j hj => World.putObj_heap_other (by omega)) (fun _ => rfl)
    (fun (pre : List ByteArray) W => (∃ v, Boxed W w.heap.size 25 v ∧ W.ownsRow (w.heap.size + 4) 9 1 v (pre.filter keep).length ((pre.filter keep).map Value.string) ∧ True) ∧ Below w.heap.size w W ∧ w.heap.size + 4 ≤ W.heap.size)
    (OwnFrom.and (Own.from (holdsRow_own (w.heap.size + 4) w.heap.size 25 9 1 (fun pre : List ByteArray => (pre.filter keep).length) (fun pre : List ByteArray => (pre.filter keep).map Value.string) (fun _ _ => True)) _) (OwnFrom.and (ownFrom_below (Nat.le_refl _) (by omega)) (fun _ _ _ _ hs hg _ => Nat.le_trans hs hg.size)))
    (fun p A v hs => by
      obtain ⟨⟨u, hu, hr, _⟩, hB, hz⟩ := hs
      exact ⟨⟨u, hu.kept (grownBy_setCell' A (w.heap.size + 1) v) (fun e => by have := Option.some.inj e; omega), hr.kept (grownBy_setCell' A (w.heap.size + 1) v) (.inr (row_not hr (by omega)).symm), trivial⟩, hB.setCell (p := ⟨w.heap.size + 1, 0, none⟩) (by show w.heap.size ≤ w.heap.size + 1; omega) _, Nat.le_trans hz (grownBy_setCell' A (w.heap.size + 1) v).size⟩)
    ⟨⟨_, bO, World.ownsRow_nil _ _ _ _, trivial⟩, hB0, by omega⟩
    (fun x => { tmps := #[.string s, undef, .slice none 0 0, .pointer (some ⟨w.heap.size, 0, none⟩), .string x, .string s, .func (.func 182) #[] #[.pointer (some ⟨w.heap.size + 2, 0, none⟩), .pointer (some ⟨w.heap.size + 1, 0, none⟩), .pointer (some ⟨w.heap.size + 3, 0, none⟩)], .string x, undef, undef, undef, undef, undef, undef, undef], defers := [] }) ?assign ?body ?done
  case assign =>
    intro l x W K hK
    gi_wp2
    exact hK
  case body =>
    rintro l pre x W ⟨⟨v, hv, hrow, _⟩, hB, hWs⟩ hlt
    have hc := hv.cell
    have hpl : (pre.filter keep).length ≤ pre.length := List.length_filter_le _ _
    cases hE : x.toList.isEmpty
    · gi_wp2_with (gi_at_builtin; refine wpListIn_append_own _ rfl _ _ 25 rfl (w.heap.size + 4) 9 i0 (.string ⟨#[]⟩) 1 16 Tryz.underlying25 hi hz0 hz1 hz2 rfl (by decide) _ _ _ rfl (hrow.alloc _) ⟨W.heap.size, 0, none⟩ 1 1 [.string x] rfl rfl (cell_one_new _ _ _) (by simp [Value.oneCell']) (by unfold maxLen; omega) (by omega) (by simp; omega) ?_; intro v' w1 hown' hgrow _; obtain ⟨g', cap', rfl⟩ := ownsRow_succ hown'; obtain ⟨hv1, hv2, hr2, hk2, hb2, hq2⟩ := push_box hWs hv hrow hown' hgrow; have hc1 := hv1.cell; have hf1 := hv1.frozen)
      have hz2 := hgrow.size
      exact ⟨hk2.from _, hq2, ⟨_, hv2, by rw [filter_hit pre hE]; exact row_push hr2, trivial⟩, hB.trans hb2, by have := (grownBy_setCell' w1 w.heap.size (.slice (some ⟨g', 0, none⟩) ((pre.filter keep).length + 1) cap')).size; simp at hz2; omega⟩
    · gi_wp2
      exact ⟨KeepsFrom.refl _ _, fun _ _ => rfl, ⟨v, hv, by rw [filter_miss pre hE]; exact hrow, trivial⟩, hB, hWs⟩
  case done =>
    rintro D ys W hD rfl ⟨⟨v, hv, hrow, _⟩, hB, _⟩ hK
    have hc := hv.cell
    gi_wp2
    refine ⟨by simp, .inl ⟨_, _, rfl, run_takeDeferred hK, ?_⟩⟩
    refine ⟨_, results_tmp rfl _ _ _, v, rfl, ?_, hB.trans (belowK_b (w := w) (Nat.le_refl _) W D _ _ (by omega) hK rfl rfl)⟩
    exact owns_base (by omega) (ownsRow_putObj hrow _ hK rfl)
theorem parts_any (s : ByteArray) (w : World) (hs : s.size ≤ 1073741824) :
    Calls Tryz.prog 118 #[.string s] w fun e W' => ∃ v, e = .returned v ∧ W'.ownsRow w.heap.size 9 1 v (partsS s).length ((partsS s).map Value.string) ∧ Below w.heap.size w W' :=
  (callsIn_wide (n := 8)).1 (parts_in 8 (by omega) s hs w)
end Go.Proofs.YtfemboojdablhaaGreatDoor.Tre
