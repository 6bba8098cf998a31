/- strings.SplitSeq at the one byte '/': the library's own text, walked. -/
import Derived.Test.YtehbjabneocflaaDoorIndex
import Derived.Test.YtehbjabneocflaaDoorBox
namespace Go.Proofs.YtehbjabneocflaaDoor
open Go.RowKit Go.Shelf
attribute [local go_sem] Oper.semAt_some

theorem cutS_miss {r : ByteArray} (h : (47 : UInt8) ∉ r.data.toList) : cutS 47 r = [r] := by
  unfold cutS; rw [split_end 47 _ h]; rfl
theorem cutS_hit {r : ByteArray} {p t : List UInt8} (h : r.data.toList = p ++ 47 :: t) (hp : (47 : UInt8) ∉ p) : cutS 47 r = r.extract 0 p.length :: cutS 47 (r.extract (p.length + 1) r.size) := by
  have e1 : r.extract 0 p.length = bs p := by rw [extract_bs, h]; simp
  have e2 : r.extract (p.length + 1) r.size = bs t := by
    rw [extract_bs, ← size_list r, h]
    congr 1
    rw [List.drop_append, List.drop_of_length_le (by omega), show p.length + 1 - p.length = 1 from by omega]
    simp only [List.drop_succ_cons, List.drop_zero, List.nil_append]
    exact List.take_of_length_le (by simp; omega)
  unfold cutS
  rw [e1, e2, h, split_hit 47 p t hp, data_bs]
  rfl
theorem cutS_ne (r : ByteArray) : 1 ≤ (cutS 47 r).length := by
  unfold cutS
  rw [List.length_map]
  cases e : splitL 47 r.data.toList with
  | nil => exact absurd e (split_ne _ _)
  | cons p ps => simp

/-- How long the text in a box is: for the loop's measure. -/
def boxLen (W : World) (b : Nat) : Nat := match W.cell? ⟨b, 0, none⟩ with
  | some (.string r) => r.size
  | _ => 0
theorem boxLen_of {W : World} {b t : Nat} {r : ByteArray} (h : Boxed W b t (.string r)) : boxLen W b = r.size := by
  unfold boxLen; rw [h.cell]

def KeepBoxes (b1 b2 b3 : Nat) (W W' : World) : Prop := ∀ k, (k = b1 ∨ k = b2 ∨ k = b3) → W'.heap[k]? = W.heap[k]?

set_option maxRecDepth 100000 in
set_option maxHeartbeats 1000000 in
theorem split1_in (n : Nat) (hn : 1 ≤ n) (l b1 b2 b3 : Nat) (h12 : b1 ≠ b2) (h13 : b1 ≠ b3) (s : ByteArray) (hs : s.size ≤ 1073741824) (J : List ByteArray → World → Prop)
    (hJs : ∀ p A v, J p A → J p (A.setCell ⟨b1, 0, none⟩ v))
    (hY : ∀ pre x W1, J pre W1 → pre.length < (cutS 47 s).length → YieldAt Fence.wide (n - 1) Tryd.prog l #[.string x] W1 fun e W' => (e = .returned (.bool true) ∧ J (pre ++ [x]) W' ∧ KeepBoxes b1 b2 b3 W1 W'))
    (W : World) (hb1 : Boxed W b1 9 (.string s)) (hb2 : Boxed W b2 9 (.string ⟨#[47]⟩)) (hb3 : Boxed W b3 3 (.int .i64 0)) (h0 : J [] W) :
    CallsIn Fence.wide n Tryd.prog 48 #[.func (.yield l) #[] #[], .pointer (some ⟨b2, 0, none⟩), .pointer (some ⟨b1, 0, none⟩), .pointer (some ⟨b3, 0, none⟩)] W fun e W' => (∃ v, e = .returned v) ∧ ∃ xs, xs = cutS 47 s ∧ J xs W' := by
  have hc2 := hb2.cell
  refine callsIn_of_wp Tryd.func48 rfl trivial ?_ rfl
  simp only [Tryd.ntmps48, List.size_toArray, List.length_cons, List.length_nil, Nat.reduceAdd, Nat.reduceSub, Array.replicate_succ, Array.replicate_zero, List.push_toArray, List.append_toArray, List.nil_append, List.cons_append]
  gi_wp2
  gi_loopw [7] (fun _ wr => ∃ (pre : List ByteArray) (r : ByteArray), Boxed wr b1 9 (.string r) ∧ Boxed wr b2 9 (.string ⟨#[47]⟩) ∧ Boxed wr b3 3 (.int .i64 0) ∧ cutS 47 s = pre ++ cutS 47 r ∧ r.size ≤ s.size ∧ J pre wr)
    (fun _ wr => boxLen wr b1)
  case atStart => exact ⟨[], s, hb1, hb2, hb3, rfl, Nat.le_refl _, h0⟩
  case round =>
    obtain ⟨pre, r, g1, g2, g3, hcut, hsz, hJ⟩ := hrel
    have c1 := g1.cell
    have c2 := g2.cell
    have c3 := g3.cell
    have f1 := g1.frozen
    have hlen : pre.length < (cutS 47 s).length := by rw [hcut, List.length_append]; have := cutS_ne r; omega
    rcases idxS_cases r with ⟨hi, hno⟩ | ⟨p, t, hr, hp, hi⟩
    · have HC : Hid (cutS 47 s = pre ++ [r]) := by rw [hcut, cutS_miss hno]; rfl
      obtain ⟨fn, tmps, assign, body, hy, hR⟩ := hY pre r wr hJ hlen
      clear hcut hno
      gi_wp2_with (refine ⟨trivial, ?_⟩; gi_at_call 50; refine (callsIn_wide.2 (index_any _ _)).mono ?_; rintro e w' ⟨rfl, rfl⟩)
      refine hR.mono ?_
      rintro e W3 ⟨rfl, hJ3, hk3⟩
      gi_wp2
      go_end0
      exact ⟨⟨_, rfl⟩, _, HC.out.symm, hJ3⟩
    · have hrs : r.size = p.length + (t.length + 1) := by rw [← size_list r, hr]; simp
      have HC : Hid (cutS 47 s = (pre ++ [r.extract 0 p.length]) ++ cutS 47 (r.extract (p.length + 1) r.size)) := by
        unfold Hid
        rw [hcut, cutS_hit hr hp, List.append_assoc]; rfl
      have hsz2 : (r.extract (p.length + 1) r.size).size ≤ s.size := by simp; omega
      have hsz3 : (r.extract (p.length + 1) r.size).size < r.size := by simp; omega
      have hpl : p.length < r.size := by omega
      have HR : Hid (r.size = p.length + (t.length + 1)) := hrs
      obtain ⟨fn, tmps, assign, body, hy, hR⟩ := hY pre (r.extract 0 p.length) wr hJ hlen
      clear hcut hr hp hrs
      gi_wp2_with (refine ⟨trivial, ?_⟩; gi_at_call 50; refine (callsIn_wide.2 (index_any _ _)).mono ?_; rintro e w' ⟨rfl, rfl⟩)
      refine hR.mono ?_
      rintro e W3 ⟨rfl, hJ3, hk3⟩
      have k1 : Boxed W3 b1 9 (.string r) := (hk3 b1 (.inl rfl)).trans g1
      have k2 : Boxed W3 b2 9 (.string ⟨#[47]⟩) := (hk3 b2 (.inr (.inl rfl))).trans g2
      have k3 : Boxed W3 b3 3 (.int .i64 0) := (hk3 b3 (.inr (.inr rfl))).trans g3
      have d1 := k1.cell
      have d2 := k2.cell
      have d3 := k3.cell
      have e1 := k1.frozen
      gi_wp2
      go_roundw
      case rel => exact ⟨_, _, k1.set _, k2.kept (grownBy_setCell' W3 b1 _) (fun e => h12 (Option.some.inj e).symm), k3.kept (grownBy_setCell' W3 b1 _) (fun e => h13 (Option.some.inj e).symm), HC.out, hsz2, hJs _ _ _ hJ3⟩
      case measure => rw [boxLen_of (k1.set _), boxLen_of g1]; exact hsz3

set_option maxHeartbeats 1000000 in
theorem splitSeq_in (n : Nat) (s sep : ByteArray) (w : World) :
    CallsIn Fence.wide n Tryd.prog 31 #[.string s, .string sep, .int .i64 0] w fun e w' => e = .returned (.func (.func 48) #[] #[.pointer (some ⟨w.heap.size + 1, 0, none⟩), .pointer (some ⟨w.heap.size, 0, none⟩), .pointer (some ⟨w.heap.size + 2, 0, none⟩)]) ∧ w' = ((w.alloc (.cells #[.string s] 9)).alloc (.cells #[.string sep] 9)).alloc (.cells #[.int .i64 0] 3) := by
  refine callsIn_of_wp Tryd.func31 rfl trivial ?_ rfl
  simp only [Tryd.ntmps31, List.size_toArray, List.length_cons, List.length_nil, Nat.reduceAdd, Nat.reduceSub, Array.replicate_succ, Array.replicate_zero, List.push_toArray, List.append_toArray, List.nil_append, List.cons_append]
  gi_wp2
  go_ret
  exact ⟨rfl, rfl⟩
set_option maxHeartbeats 1000000 in
theorem SplitSeq_in (n : Nat) (hn : 1 ≤ n) (s sep : ByteArray) (w : World) :
    CallsIn Fence.wide n Tryd.prog 20 #[.string s, .string sep] w fun e w' => e = .returned (.func (.func 48) #[] #[.pointer (some ⟨w.heap.size + 1, 0, none⟩), .pointer (some ⟨w.heap.size, 0, none⟩), .pointer (some ⟨w.heap.size + 2, 0, none⟩)]) ∧ w' = ((w.alloc (.cells #[.string s] 9)).alloc (.cells #[.string sep] 9)).alloc (.cells #[.int .i64 0] 3) := by
  refine callsIn_of_wp Tryd.func20 rfl trivial ?_ rfl
  simp only [Tryd.ntmps20, List.size_toArray, List.length_cons, List.length_nil, Nat.reduceAdd, Nat.reduceSub, Array.replicate_succ, Array.replicate_zero, List.push_toArray, List.append_toArray, List.nil_append, List.cons_append]
  gi_wp2_with (refine ⟨trivial, ?_⟩; gi_at_call 31; refine (splitSeq_in _ _ _ _).mono ?_; rintro e w' ⟨rfl, rfl⟩)
  go_ret
  exact ⟨rfl, rfl⟩

theorem split_seq (n : Nat) (hn : 1 ≤ n) (b1 b2 b3 : Nat) (h12 : b1 ≠ b2) (h13 : b1 ≠ b3) (s : ByteArray) (hs : s.size ≤ 1073741824) (w : World) (hb1 : Boxed w b1 9 (.string s)) (hb2 : Boxed w b2 9 (.string ⟨#[47]⟩)) (hb3 : Boxed w b3 3 (.int .i64 0)) :
    SeqBox Fence.wide n Tryd.prog 48 #[.pointer (some ⟨b2, 0, none⟩), .pointer (some ⟨b1, 0, none⟩), .pointer (some ⟨b3, 0, none⟩)] (fun x : ByteArray => #[Value.string x]) (KeepBoxes b1 b2 b3) (fun xs => xs = cutS 47 s) (cutS 47 s).length b1 w :=
  fun l J W hW hJs hY h0 => split1_in n hn l b1 b2 b3 h12 h13 s hs J hJs hY W ((hW.block b1 hb1.lt).trans hb1) ((hW.block b2 hb2.lt).trans hb2) ((hW.block b3 hb3.lt).trans hb3) h0
end Go.Proofs.YtehbjabneocflaaDoor
