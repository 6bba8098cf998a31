/- Merged: IbH, TRef, TBase. -/
import Derived.Test.YtfemboojdablhaaGreatDoorMi26
import Derived.Test.YtfemboojdablhaaGreatDoorMi12
import Derived.Test.YtfemboojdablhaaGreatDoorMi24
import Derived.Test.YtfemboojdablhaaGreatDoorProg
import Derived.Maps.AppendAt
import Derived.Outline
import Derived.BigQuiet
import Derived.Deep.QuietTactic
import Derived.Lib.Walk
namespace Go.Proofs.YtfemboojdablhaaGreatDoor
open Go.RowKit Go.Shelf
attribute [local go_sem] Oper.semAt_some
def litL (Mn : ByteArray → ByteArray → Bool) (p : ByteArray) (parts : List ByteArray) (rest : List Bool) : List Bool := List.zipWith (fun b q => b && Mn p q) rest.tail parts ++ [false]
theorem litL_length {Mn : ByteArray → ByteArray → Bool} {p : ByteArray} {parts : List ByteArray} {rest : List Bool} (h : rest.length = parts.length + 1) : (litL Mn p parts rest).length = parts.length + 1 := by
  simp [litL, h]
def stepR (Mn : ByteArray → ByteArray → Bool) (n : Nat) (parts : List ByteArray) (k : Nat) (p : ByteArray) (rest : List Bool) : List Bool :=
  if (p.toList == [42, 42]) = true then (if 0 < k ∧ k = n - 1 then (anyL rest).set parts.length false else anyL rest) else litL Mn p parts rest
theorem stepR_length {Mn : ByteArray → ByteArray → Bool} {n k : Nat} {p : ByteArray} {parts : List ByteArray} {rest : List Bool} (h : rest.length = parts.length + 1) : (stepR Mn n parts k p rest).length = parts.length + 1 := by
  unfold stepR
  split
  · split
    · rw [List.length_set, anyL_length, h]
    · rw [anyL_length, h]
  · exact litL_length h
def restR (Mn : ByteArray → ByteArray → Bool) (n : Nat) (parts : List ByteArray) : Nat → List ByteArray → List Bool
  | _, [] => List.replicate parts.length false ++ [true]
  | k, p :: ps => stepR Mn n parts k p (restR Mn n parts (k + 1) ps)
theorem restR_length (Mn : ByteArray → ByteArray → Bool) (n : Nat) (parts : List ByteArray) : ∀ (ps : List ByteArray) (k : Nat), (restR Mn n parts k ps).length = parts.length + 1 := by
  intro ps
  induction ps with
  | nil => intro k; simp [restR]
  | cons p ps ih => intro k; exact stepR_length (ih _)
def rowD (Mn : ByteArray → ByteArray → Bool) (pat parts : List ByteArray) : Bool := (restR Mn pat.length parts 0 pat).headD false
theorem backS_any (a : Option Addr) (n c : Nat) (w : World) : Calls Tryz.prog 155 #[.slice a n c] w fun e w' => e = .returned (.func (.func 191) #[] #[.pointer (some ⟨w.heap.size, 0, none⟩)]) ∧ w' = w.alloc (.cells #[.slice a n c] 25) := by
  go_enter Tryz.func155, Tryz.ntmps155
  go_wp2
  go_ret
  exact ⟨rfl, rfl⟩
theorem Tryz.infoB : (Tryz.prog.info? 4).map (fun i => (i.zero, i.size, i.bytes)) = some (some (.bool false), 1, 1) := by kernel_rfl
theorem Tryz.underlying83' : Tryz.prog.underlying 83 = some (.slice 4) := by kernel_rfl
structure Teller (Gd : World → Prop) (Mn : ByteArray → ByteArray → Bool) : Prop where
  big : ∀ A, Gd A → 14 ≤ A.heap.size
  keep : ∀ A A', Gd A → Below 14 A A' → Gd A'
  tell : ∀ p q w, q.size ≤ 1000000 → Gd w → Calls Tryz.prog 126 #[.string p, .string q] w fun e w' => e = .returned (.bool (Mn p q)) ∧ Below w.heap.size w w'
structure RmI (Gd : World → Prop) (w : World) (va vb : Value) (parts : List ByteArray) (n0 : Nat) (rest : List Bool) (C : Nat → Prop) (A : World) : Prop where
  cs : ∀ k, C k ↔ k = n0 + 3
  b0 : Boxed A n0 25 va
  b1 : Boxed A (n0 + 1) 25 vb
  b2 : Boxed A (n0 + 2) 3 (.int .i64 (parts.length : Int))
  b4 : Boxed A (n0 + 4) 83 (.slice (some ⟨n0 + 3, 0, none⟩) (parts.length + 1) (parts.length + 1))
  row : BRow A (n0 + 3) rest
  bel : Below n0 w A
  gd : Gd A
  size : n0 + 6 ≤ A.heap.size
theorem rmI_abide {Gd : World → Prop} {Mn : ByteArray → ByteArray → Bool} (hTl : Teller Gd Mn) {w : World} {va vb : Value} {parts : List ByteArray} {n0 N : Nat} {rest : List Bool} (hN : n0 + 6 ≤ N) (h10 : 14 ≤ n0) : Abide N (RmI Gd w va vb parts n0 rest) := by
  constructor
  · intro C A h k hk
    have := (h.cs k).1 hk
    have := h.size
    omega
  · intro C A A' h hk
    have hz := h.size
    have hb2 : Below (n0 + 6) A A' := ⟨hk.os, hk.tape, hk.output, hk.size, fun k hlt => hk.block k (by omega) (.inl (by omega))⟩
    exact ⟨h.cs, boxed_keepN h.b0 hk (by omega), boxed_keepN h.b1 hk (by omega), boxed_keepN h.b2 hk (by omega), boxed_keepN h.b4 hk (by omega), h.row.keepN hk (.inl (by omega)), h.bel.trans (hb2.mono (by omega)), hTl.keep _ _ h.gd (hb2.mono (by omega)), Nat.le_trans h.size hk.size⟩
theorem turn_below {C C' : Nat → Prop} {A A' : World} {D : Nat} (h : TurnC C C' A A') (hC : ∀ k, C k → D ≤ k) (hD : D ≤ A.heap.size) : Below D A A' :=
  ⟨h.os, h.tape, h.output, h.size, fun k hk => h.block k (by omega) (fun q => by have := hC k q; omega)⟩
theorem RmI.turn {Gd : World → Prop} {Mn : ByteArray → ByteArray → Bool} (hTl : Teller Gd Mn) {w : World} {va vb : Value} {parts : List ByteArray} {n0 : Nat} {rest rest' : List Bool} {C : Nat → Prop} {A A' : World} (h10 : 14 ≤ n0) (h : RmI Gd w va vb parts n0 rest C A) (ht : TurnC C C A A') (hr : BRow A' (n0 + 3) rest') : RmI Gd w va vb parts n0 rest' C A' := by
  have hz := h.size
  have hb : Below n0 A A' := turn_below ht (fun k q => by have := (h.cs k).1 q; omega) (by omega)
  have hn : ∀ j, j ≠ n0 + 3 → ¬ C j := fun j hj q => hj ((h.cs j).1 q)
  exact ⟨h.cs, boxed_turn ht h.b0 (hn _ (by omega)), boxed_turn ht h.b1 (hn _ (by omega)), boxed_turn ht h.b2 (hn _ (by omega)), boxed_turn ht h.b4 (hn _ (by omega)), hr, h.bel.trans hb, hTl.keep _ _ h.gd (hb.mono h10), Nat.le_trans hz ht.size⟩
set_option maxRecDepth 100000 in
set_option maxHeartbeats 8000000 in
theorem rowMeans_any (Gd : World → Prop) (Mn : ByteArray → ByteArray → Bool) (hTl : Teller Gd Mn) (aa ab : Option Addr) (ca cb D : Nat) (pat parts : List ByteArray) (w : World) (hG : Gd w) (hD : D ≤ w.heap.size) (hp : StrRow D w (.slice aa pat.length ca) pat) (hq : StrRow D w (.slice ab parts.length cb) parts) (hpl : pat.length ≤ 1000000) (hql : parts.length ≤ 999999) (hqs : ∀ q ∈ parts, q.size ≤ 1000000) :
    Calls Tryz.prog 128 #[.slice aa pat.length ca, .slice ab parts.length cb] w fun e w' => e = .returned (.bool (rowD Mn pat parts)) ∧ Below w.heap.size w w' := by
  obtain ⟨n0, hn0⟩ : ∃ n, w.heap.size = n := ⟨_, rfl⟩
  refine (callsIn_wide (n := 0)).1 ?_
  refine callsIn_of_wp_marks Tryz.func128 rfl trivial ?_ rfl
  simp only [Tryz.ntmps128, List.size_toArray, List.length_cons, List.length_nil, Nat.reduceAdd, Nat.reduceSub, Array.replicate_succ, Array.replicate_zero, List.push_toArray, List.append_toArray, List.nil_append, List.cons_append]
  obtain ⟨i0, hi, hz0, hz1, hz2⟩ := info_parts Tryz.infoB
  have hmk : ∀ W : World, (Instr.makeSlice 83 (.int .i64 ((parts.length : Int) + 1)) (.int .i64 ((parts.length : Int) + 1))).run Tryz.prog W = .ok (.slice (some ⟨W.heap.size, 0, none⟩) (parts.length + 1) (parts.length + 1)) (W.alloc (.cells ((List.replicate parts.length false ++ [false]).map Value.bool).toArray 4)) := by
    intro W
    have h := run_make (P := Tryz.prog) W 83 4 i0 (.bool false) Tryz.underlying83' hi hz0 .i64 .i64 ((parts.length : Int) + 1) ((parts.length : Int) + 1) (by omega) (Int.le_refl _) (by rw [hz2]; omega) (by omega)
    rw [hz1] at h
    have e : ((parts.length : Int) + 1).toNat = parts.length + 1 := by omega
    rw [e] at h
    rw [h]
    have e2 : madeCells (Value.bool false).cells ((parts.length + 1) * 1) = ((List.replicate parts.length false ++ [false]).map Value.bool).toArray := by
      rw [Nat.mul_one]
      unfold madeCells
      have ef : (fun x : Nat => (Value.bool false).cells[x % (Value.bool false).cells.size]!) = fun _ => Value.bool false := by
        funext x
        show #[Value.bool false][x % 1]! = _
        rw [Nat.mod_one]; rfl
      rw [ef]
      apply Array.toList_inj.1
      simp [List.map_const', List.replicate_succ']
    rw [e2]
  gi_wp2_with fail
  refine ⟨trivial, rfl, CallsIn.mono (callsIn_wide.2 (backS_any _ _ _ _)) ?_⟩
  rintro e w' ⟨rfl, hw⟩
  rw [hw]
  clear hw w' hmk
  gi_wp2_with fail
  obtain ⟨w1, hw1⟩ : ∃ w1, lay w [.cells #[.slice aa pat.length ca] 25, .cells #[.slice ab parts.length cb] 25, .cells #[.int .i64 (parts.length : Int)] 3, .cells (List.replicate parts.length (Value.bool false) ++ [Value.bool true]).toArray 4, .cells #[.slice (some ⟨n0 + 1 + 1 + 1, 0, none⟩) (parts.length + 1) (parts.length + 1)] 83, .cells #[.slice aa pat.length ca] 25] = w1 := ⟨_, rfl⟩
  obtain ⟨z1, l1, f1⟩ := lay_facts [.cells #[.slice aa pat.length ca] 25, .cells #[.slice ab parts.length cb] 25, .cells #[.int .i64 (parts.length : Int)] 3, .cells (List.replicate parts.length (Value.bool false) ++ [Value.bool true]).toArray 4, .cells #[.slice (some ⟨n0 + 1 + 1 + 1, 0, none⟩) (parts.length + 1) (parts.length + 1)] 83, .cells #[.slice aa pat.length ca] 25] w
  rw [hw1] at z1 l1 f1
  rw [hn0] at z1 l1 f1
  simp only [lay] at hw1
  rw [hw1]
  clear hw1
  replace z1 : w1.heap.size = n0 + 6 := z1
  have q0 : Boxed w1 n0 25 (.slice aa pat.length ca) := f1 0 _ rfl
  have q1 : Boxed w1 (n0 + 1) 25 (.slice ab parts.length cb) := f1 1 _ rfl
  have q2 : Boxed w1 (n0 + 2) 3 (.int .i64 (parts.length : Int)) := f1 2 _ rfl
  have q3 : BRow w1 (n0 + 3) (List.replicate parts.length false ++ [true]) := by
    have := f1 3 _ rfl
    unfold BRow
    rw [this]
    simp
  have q4 : Boxed w1 (n0 + 4) 83 (.slice (some ⟨n0 + 3, 0, none⟩) (parts.length + 1) (parts.length + 1)) := f1 4 _ rfl
  have q5 : Boxed w1 (n0 + 5) 25 (.slice aa pat.length ca) := f1 5 _ rfl
  clear f1
  have hbig := hTl.big w hG
  have hG1 : Gd w1 := hTl.keep w w1 hG (l1.mono (by omega))
  have HP := hide hp
  have HQ := hide hq
  clear hp hq
  have hab : ∀ (rest : List Bool) (N : Nat), n0 + 6 ≤ N → Abide N (RmI Gd w (.slice aa pat.length ca) (.slice ab parts.length cb) parts n0 rest) := fun rest N hN => rmI_abide hTl hN (by omega)
  refine range_out (gf := 191) (lb := #[.pointer (some ⟨n0 + 1 + 1 + 1 + 1 + 1, 0, none⟩)]) rfl (enters_of Tryz.func191 (by kernel_rfl) rfl) (backS_hands (n0 + 5) aa ca pat hpl) (fun _ => rfl)
    (fun k => k = n0 + 3) (fun pre => RmI Gd w (.slice aa pat.length ca) (.slice ab parts.length cb) parts n0 (restR Mn pat.length parts (pat.length - pre.length) (pat.drop (pat.length - pre.length)))) (fun _ _ => False) (fun pre => hab _ _ (by omega)) ⟨fun _ _ h => h.elim, fun _ _ _ h _ => h⟩
    ⟨fun _ => Iff.rfl, q0, q1, q2, q4, by simpa [restR] using q3, l1, hG1, by omega⟩ (fun W hB => ⟨boxed_below q5 hB (by omega), fun q => by omega⟩)
    (fun pre x C A hp hI => by
      obtain ⟨e1, e2⟩ := revE_at hp
      rcases HP.out with ⟨he, he2⟩ | ⟨g, cap, he, hg, hc, hx⟩
      · subst he2
        simp at e1
      · cases he
        exact ⟨g, rfl, hc, (hI.bel.cell (p := ⟨g, x.1, none⟩) (by show g < n0; omega)).trans (hx _ _ e2)⟩) ?round ?done ?stop
  case round =>
    clear q0 q1 q2 q3 q4 q5 hG1
    rintro l2 pre ⟨k, p⟩ C W hl2 hrec hCl2 hpre hI
    obtain ⟨e1, e2⟩ := revE_at hpre
    dsimp only at e1 e2
    obtain ⟨hlt, e2⟩ := List.getElem?_eq_some_iff.1 e2
    simp only [encIS]
    gi_wp2
    refine ⟨Below.refl _ _, fun W2 hsw => ?_⟩
    have hI2 := (hab _ w1.heap.size (by omega)).keep _ _ _ hI (hsw.keep hl2 hCl2)
    clear hI hsw hrec
    have hj : pat.length - pre.length = k + 1 := by omega
    have hj2 : pat.length - (pre ++ [(k, p)]).length = k := by simp; omega
    have hnew : restR Mn pat.length parts k (pat.drop k) = stepR Mn pat.length parts k p (restR Mn pat.length parts (k + 1) (pat.drop (k + 1))) := by
      rw [List.drop_eq_getElem_cons hlt, e2]
      rfl
    rw [hj] at hI2
    have hrl := restR_length Mn pat.length parts (pat.drop (k + 1)) (k + 1)
    obtain ⟨rest, hrest⟩ : ∃ r, restR Mn pat.length parts (k + 1) (pat.drop (k + 1)) = r := ⟨_, rfl⟩
    rw [hrest] at hI2 hnew hrl
    have FIN : Hid (∀ (a : Act) (A : World), TurnC C C W2 A → RmI Gd w (.slice aa pat.length ca) (.slice ab parts.length cb) parts n0 (stepR Mn pat.length parts k p rest) C A → roundC (fun pre => RmI Gd w (.slice aa pat.length ca) (.slice ab parts.length cb) parts n0 (restR Mn pat.length parts (pat.length - pre.length) (pat.drop (pat.length - pre.length)))) (fun _ _ => False) C (pre ++ [(k, p)]) W2 .normal a A) := fun a A ht hI => ⟨C, ht, by
      show RmI _ _ _ _ _ _ (restR Mn pat.length parts (pat.length - (pre ++ [(k, p)]).length) (pat.drop (pat.length - (pre ++ [(k, p)]).length))) _ _
      rw [hj2, hnew]; exact hI⟩
    clear hrest hnew hj hj2 e1 e2 hpre
    obtain rfl : C = fun k => k = n0 + 3 := funext fun k => propext (hI2.cs k)
    cases hstar : (p.toList == [42, 42])
    · have k1 := hI2.b1.cell
      have HI2 := hide hI2
      clear hI2
      gi_wp2
      clear k1
      obtain ⟨zs, hzs⟩ : ∃ zs, List.zipWith (fun b q => b && Mn p q) rest.tail parts = zs := ⟨_, rfl⟩
      have hzl : zs.length = parts.length := by rw [← hzs]; simp; omega
      gi_loopw [41] (fun iv wr => ∃ j : Nat, iv = .int .i64 (j : Int) ∧ j ≤ parts.length ∧ TurnC (fun k => k = n0 + 3) (fun k => k = n0 + 3) W2 wr ∧ RmI Gd w (.slice aa pat.length ca) (.slice ab parts.length cb) parts n0 (zs.take j ++ rest.drop j) (fun k => k = n0 + 3) wr) (fun iv _ => parts.length - (intOf iv).toNat)
      case atStart => exact ⟨0, rfl, Nat.zero_le _, .refl _ _, by rw [List.take_zero, List.drop_zero, List.nil_append]; exact HI2.out⟩
      case round =>
        obtain ⟨j, rfl, hj, htj, hIj⟩ := hrel
        by_cases hjl : j < parts.length
        · have hjI : (j : Int) < (parts.length : Int) := by omega
          have hjI2 : (j : Int) + 1 < (parts.length : Int) + 1 := by omega
          obtain ⟨q, hq⟩ : ∃ q, parts[j]? = some q := ⟨_, List.getElem?_eq_getElem hjl⟩
          have hqz := hqs q (List.mem_of_getElem? hq)
          rcases HQ.out with ⟨he, he2⟩ | ⟨gq, capq, he, hgq, hcq, hxq⟩
          · subst he2
            simp at hjl
          cases he
          have kq := (hIj.bel.cell (p := ⟨gq, j, none⟩) (by show gq < n0; omega)).trans (hxq j q hq)
          obtain ⟨b1, hb1⟩ : ∃ b, rest[j + 1]? = some b := ⟨_, List.getElem?_eq_getElem (by omega)⟩
          have kb : wr.cell? ⟨n0 + 3, j + 1, none⟩ = some (.bool b1) := hIj.row.cell (by rw [List.getElem?_append_right (by rw [List.length_take]; omega), List.length_take, Nat.min_eq_left (by omega), List.getElem?_drop, show j + (j + 1 - j) = j + 1 by omega]; exact hb1)
          obtain ⟨b0, hb0⟩ : ∃ b, rest[j]? = some b := ⟨_, List.getElem?_eq_getElem (by omega)⟩
          have kb0 : wr.cell? ⟨n0 + 3, j, none⟩ = some (.bool b0) := hIj.row.cell (by rw [List.getElem?_append_right (by rw [List.length_take]; omega), List.length_take, Nat.min_eq_left (by omega), List.getElem?_drop, show j + (j - j) = j by omega]; exact hb0)
          have hfr := hIj.row.fr j
          have k4 := hIj.b4.cell
          have hGd : Gd wr.drew := hTl.keep _ _ hIj.gd (Below.refl _ _).drew
          have hMn : Calls Tryz.prog 126 #[.string p, .string q] wr.drew fun e w' => e = .returned (.bool (Mn p q)) ∧ Below wr.heap.size wr w' := (hTl.tell p q wr.drew hqz hGd).mono fun e w' h => ⟨h.1, ((Below.refl wr.heap.size wr).drew).trans h.2⟩
          have HZ : Hid (zs[j]? = some (b1 && Mn p q)) := by
            unfold Hid
            rw [← hzs, List.getElem?_zipWith, List.getElem?_tail, hb1, hq]
          have hl4 := hIj.b4.lt
          have hl3 := hIj.row.lt
          have HIJ := hide hIj
          have HTJ := hide htj
          clear hIj htj hq hxq hb1 hb0 hzs hGd
          gi_wp2
          refine Rg.reg14 (n0 + 1 + 1 + 1 + 1) (n0 + 1 + 1 + 1) parts.length j p q b0 b1 (Mn p q) wr hjl (by omega) k4 kb kb0 hfr hl4 hl3 hMn ?_
          clear hMn k4 kb kb0 hfr kq
          intro x46 x47 x48 x49 x50 x51 x52 x53 x54 x55 x56 x57 x58 w0 hb0
          have t1 : TurnC (fun k => k = n0 + 3) (fun k => k = n0 + 3) wr w0 := .of_below hb0
          have t2 : TurnC (fun k => k = n0 + 3) (fun k => k = n0 + 3) w0 (w0.setCell ⟨n0 + 3, j, none⟩ (.bool (b1 && Mn p q))) := .setCell _ _ _ rfl
          have hrow : BRow w0 (n0 + 3) (zs.take j ++ rest.drop j) := (hb0.block _ hl3).trans HIJ.out.row
          have e3 : (zs.take j ++ rest.drop j).set j (b1 && Mn p q) = zs.take (j + 1) ++ rest.drop (j + 1) := by
            rw [List.set_append_right _ _ (by rw [List.length_take]; omega), List.length_take, Nat.min_eq_left (by omega), Nat.sub_self, List.take_add_one, HZ.out, List.append_assoc, List.drop_eq_getElem_cons (show j < rest.length by omega)]
            rfl
          have hrow2 := hrow.set j (b1 && Mn p q)
          rw [e3] at hrow2
          have HI3 := hide (HIJ.out.turn hTl (by omega) (t1.trans t2) hrow2)
          have HT3 := hide (HTJ.out.trans (t1.trans t2))
          clear t1 t2 hrow hrow2 e3
          gi_wp2
          case roundEnd =>
            refine ⟨⟨j + 1, by simp, by omega, HT3.out, HI3.out⟩, ?_⟩
            simp [intOf]; omega
        · obtain rfl : j = parts.length := by omega
          have k2 := hIj.b2.cell
          have k4 := hIj.b4.cell
          obtain ⟨b0, hb0⟩ : ∃ b, rest[parts.length]? = some b := ⟨_, List.getElem?_eq_getElem (by omega)⟩
          have kb0 : wr.cell? ⟨n0 + 3, parts.length, none⟩ = some (.bool b0) := hIj.row.cell (by rw [List.getElem?_append_right (by rw [List.length_take]; omega), List.length_take, Nat.min_eq_left (by omega), List.getElem?_drop, show parts.length + (parts.length - parts.length) = parts.length by omega]; exact hb0)
          have hfr := hIj.row.fr parts.length
          have hnI : ¬ ((parts.length : Int) < (parts.length : Int)) := by omega
          have t2 : TurnC (fun k => k = n0 + 3) (fun k => k = n0 + 3) wr (wr.setCell ⟨n0 + 3, parts.length, none⟩ (.bool false)) := .setCell _ _ _ rfl
          have e3 : (zs.take parts.length ++ rest.drop parts.length).set parts.length false = stepR Mn pat.length parts k p rest := by
            unfold stepR litL
            rw [if_neg (by rw [hstar]; decide), hzs, List.set_append_right _ _ (by rw [List.length_take]; omega), List.length_take, Nat.min_eq_left (by omega), Nat.sub_self, List.take_of_length_le (by omega), List.drop_eq_getElem_cons (show parts.length < rest.length by omega), List.drop_of_length_le (by omega)]
            rfl
          have hrow2 := hIj.row.set parts.length false
          rw [e3] at hrow2
          have HF := hide (FIN.out · _ (htj.trans t2) (hIj.turn hTl (by omega) t2 hrow2))
          clear t2 hrow2 e3 hIj htj hb0 hzs
          gi_wp2
          exact HF.out _
    · have hA := addAny_any (n0 + 3) (parts.length + 1) rest W2 hI2.row (by omega) (by omega)
      rw [hrl] at hA
      have k4 := hI2.b4.cell
      have HI2 := hide hI2
      clear hI2
      gi_wp2_with fail
      refine ⟨trivial, rfl, CallsIn.mono (CallsIn.inRound l2 (callsIn_wide.2 hA)) ?_⟩
      rintro e W3 ⟨⟨v, rfl⟩, hr3, ht3⟩
      have hI3 := HI2.out.turn hTl (by omega) ht3 hr3
      clear HI2 hA k4
      have k0 := hI3.b0.cell
      have k2 := hI3.b2.cell
      have k4 := hI3.b4.cell
      have hal := anyL_length rest
      obtain ⟨bv, hbv⟩ : ∃ b, (anyL rest)[parts.length]? = some b := ⟨_, List.getElem?_eq_getElem (by omega)⟩
      have kr := hr3.cell hbv
      have fr := hr3.fr parts.length
      have HT3 := hide ht3
      have HI3 := hide hI3
      have HR3 := hide hr3
      clear hI3 hr3 ht3 hal hbv
      by_cases hk0 : 0 < k
      · have g0 : (0 : Int) < (k : Int) := by omega
        by_cases hkl : k = pat.length - 1
        · have g1 : ((k : Int) == (pat.length : Int) - 1) = true := by rw [beq_iff_eq]; omega
          gi_wp2
          have ht4 : TurnC (fun k => k = n0 + 3) (fun k => k = n0 + 3) W3 (W3.setCell ⟨n0 + 3, parts.length, none⟩ (.bool false)) := .setCell _ _ _ rfl
          refine FIN.out _ _ (HT3.out.trans ht4) ?_
          have he : stepR Mn pat.length parts k p rest = (anyL rest).set parts.length false := by unfold stepR; rw [if_pos hstar, if_pos ⟨hk0, hkl⟩]
          rw [he]
          exact HI3.out.turn hTl (by omega) ht4 (HR3.out.set _ _)
        · have g1 : ((k : Int) == (pat.length : Int) - 1) = false := by rw [beq_eq_false_iff_ne]; omega
          gi_wp2
          refine FIN.out _ _ HT3.out ?_
          have he : stepR Mn pat.length parts k p rest = anyL rest := by unfold stepR; rw [if_pos hstar, if_neg (fun q => hkl q.2)]
          rw [he]
          exact HI3.out
      · have g0 : ¬ ((0 : Int) < (k : Int)) := by omega
        gi_wp2
        refine FIN.out _ _ HT3.out ?_
        have he : stepR Mn pat.length parts k p rest = anyL rest := by unfold stepR; rw [if_pos hstar, if_neg (fun q => hk0 q.1)]
        rw [he]
        exact HI3.out
  case done =>
    rintro C W hz hC hI hK
    have hI : RmI Gd w (.slice aa pat.length ca) (.slice ab parts.length cb) parts n0 (restR Mn pat.length parts (pat.length - (revE pat).length) (pat.drop (pat.length - (revE pat).length))) C W := hI
    have e : (revE pat).length = pat.length := by simp [revE]
    rw [e, Nat.sub_self, List.drop_zero] at hI
    have hrl := restR_length Mn pat.length parts pat 0
    have k4 := hI.b4.cell
    obtain ⟨bv, hbv⟩ : ∃ b, (restR Mn pat.length parts 0 pat)[0]? = some b := ⟨_, List.getElem?_eq_getElem (by omega)⟩
    have HD : Hid (rowD Mn pat parts = bv) := by
      unfold Hid rowD
      cases hr : restR Mn pat.length parts 0 pat with
      | nil => rw [hr] at hrl; simp at hrl
      | cons b r => rw [hr] at hbv; simpa using hbv
    have kr : W.cell? ⟨n0 + 3, 0, none⟩ = some (.bool bv) := hI.row.cell hbv
    clear hbv hrl
    have HI := hide hI
    have HK := hide hK
    clear hI hK
    gi_wp2
    refine leave_ret HK.out (v := .bool (rowD Mn pat parts)) ?_ ⟨rfl, ?_⟩
    · rw [HD.out]
      simp [results, Tryz.results128, go_sem]
    · exact below_put (by rw [hn0]; exact HI.out.bel) (by omega)
  case stop =>
    rintro C W hz hC hI hK
    exact hI.elim
end Go.Proofs.YtfemboojdablhaaGreatDoor
namespace Go.Proofs.YtfemboojdablhaaGreatDoor.Tre
open Go.RowKit
theorem Tryz.info9 : (Tryz.prog.info? 9).map (fun i => (i.zero, i.size, i.bytes)) = some (some (.string ⟨#[]⟩), 1, 16) := by kernel_rfl
theorem row_push {B : Nat} {w1 : World} {v' : Value} {xs : List ByteArray} {x : ByteArray} (hown' : w1.ownsRow B 9 1 v' (xs.length + 1) (xs.map Value.string ++ [Value.string x])) :
    w1.ownsRow B 9 1 v' (xs ++ [x]).length ((xs ++ [x]).map Value.string) := by
  rw [List.length_append, List.map_append]; exact hown'
theorem below_push {B n : Nat} {w wr w1 : World} {o : Obj} {v : Value} {xs : List Value} (hB : B ≤ wr.heap.size) (hnx : Below B w wr) (hown : wr.ownsRow B 9 1 v n xs) (hg : (wr.alloc o).grownBy w1 v.ownBlock) : Below B w w1 :=
  (hnx.alloc hB o).grown hg (by simp; omega) (fun k e => (hown.lt k e).1)
set_option maxHeartbeats 1000000 in
theorem cut_any (c : UInt8) (s : ByteArray) (w : World) (hs : s.size ≤ 1073741824) :
    Calls Tryz.prog 18 #[.string s, .int .u8 (c.toNat : Int)] w fun e w' =>
      ∃ v, e = .returned v ∧ w'.ownsRow w.heap.size 9 1 v (cutS c s).length ((cutS c s).map Value.string) ∧ Below w.heap.size w w' := by
  obtain ⟨i0, hi, hz0, hz1, hz2⟩ := info_parts Tryz.info9
  go_enter Tryz.func18, Tryz.ntmps18
  go_wp2
  go_loopw [5, 6, 7] (fun v fv iv wr => ∃ (k f : Nat) (done : List ByteArray), CutSt c s k f done ∧ iv = .int .i64 k ∧ fv = .int .i64 f ∧ wr.ownsRow w.heap.size 9 1 v done.length (done.map Value.string) ∧ Below w.heap.size w wr)
    (fun _ _ iv _ => s.size + 1 - (intOf iv).toNat)
  case atStart => exact ⟨0, 0, [], cutSt_zero c s, rfl, rfl, World.ownsRow_nil _ _ _ _, Below.refl _ _⟩
  case round =>
    obtain ⟨k, f, done, hst, rfl, rfl, hown, hnx⟩ := hrel
    have hle := cutSt_le hst
    by_cases hk : k ≤ s.size
    · have hroom := cutSt_room hst hk
      have hf := cutSt_from hst hk
      by_cases hke : k = s.size
      · subst hke
        have hb : ((s.size : Int) == (s.size : Int)) = true := by simp
        have HST : Hid (CutSt c s (s.size + 1) (s.size + 1) (done ++ [s.extract f s.size])) := cutSt_end hst
        clear hst
        go_wp2_with (at_builtin; refine wpList_append_own _ rfl _ _ 25 rfl w.heap.size 9 i0 (.string ⟨#[]⟩) 1 16 Tryz.underlying25 hi hz0 hz1 hz2 rfl (by decide) _ _ _ rfl (hown.alloc _) ⟨wr.heap.size, 0, none⟩ 1 1 [.string (s.extract f s.size)] rfl rfl (cell_one_new _ _ _) (by simp [Value.oneCell']) (by unfold maxLen; omega) (by omega) (by have := hnx.size; simp; omega) ?_; intro v' w1 hown' hgrow _)
        have HB := below_push hnx.size hnx hown hgrow
        go_roundw
        case rel => exact ⟨s.size + 1, s.size + 1, _, HST.out, by go_num, by go_num, row_push hown', HB⟩
        case measure => simp [intOf]
      · have hlt : k < s.size := by omega
        have hb : ((k : Int) == (s.size : Int)) = false := by rw [beq_eq_false_iff_ne]; omega
        by_cases hc : s[k] = c
        · have hbc : ((s[k].toNat : Int) == (c.toNat : Int)) = true := by rw [hc]; simp
          have HST : Hid (CutSt c s (k + 1) (k + 1) (done ++ [s.extract f k])) := cutSt_hit hst hlt hc
          clear hst hc hke
          go_wp2_with (at_builtin; refine wpList_append_own _ rfl _ _ 25 rfl w.heap.size 9 i0 (.string ⟨#[]⟩) 1 16 Tryz.underlying25 hi hz0 hz1 hz2 rfl (by decide) _ _ _ rfl (hown.alloc _) ⟨wr.heap.size, 0, none⟩ 1 1 [.string (s.extract f k)] rfl rfl (cell_one_new _ _ _) (by simp [Value.oneCell']) (by unfold maxLen; omega) (by omega) (by have := hnx.size; simp; omega) ?_; intro v' w1 hown' hgrow _)
          have HB := below_push hnx.size hnx hown hgrow
          go_roundw
          case rel => exact ⟨k + 1, k + 1, _, HST.out, by go_num, by go_num, row_push hown', HB⟩
          case measure => simp [intOf]; omega
        · have hbc : ((s[k].toNat : Int) == (c.toNat : Int)) = false := by
            rw [beq_eq_false_iff_ne]; intro e; exact hc (UInt8.toNat_inj.1 (by omega))
          have HST : Hid (CutSt c s (k + 1) f done) := cutSt_miss hst hlt hc
          clear hst hc
          go_wp2
          go_roundw
          case rel => exact ⟨k + 1, f, done, HST.out, by go_num, rfl, hown, hnx⟩
          case measure => simp [intOf]; omega
    · have hd := cutSt_out hst hk
      subst hd
      go_wp2
      go_ret
      exact ⟨_, rfl, hown, hnx⟩
def StrRow (B : Nat) (W : World) (v : Value) (xs : List ByteArray) : Prop :=
  (v = .slice none 0 0 ∧ xs = []) ∨ ∃ g cap, v = .slice (some ⟨g, 0, none⟩) xs.length cap ∧ g < B ∧ xs.length ≤ cap ∧ ∀ (j : Nat) (x : ByteArray), xs[j]? = some x → W.cell? ⟨g, j, none⟩ = some (.string x)
theorem StrRow.below {B : Nat} {W W' : World} {v : Value} {xs : List ByteArray} (h : StrRow B W v xs) (hb : Below B W W') : StrRow B W' v xs := by
  rcases h with h | ⟨g, cap, rfl, hg, hc, hx⟩
  · exact .inl h
  · exact .inr ⟨g, cap, rfl, hg, hc, fun j x hj => (hb.cell (p := ⟨g, j, none⟩) hg).trans (hx j x hj)⟩
theorem StrRow.of_owns {B : Nat} {W : World} {v : Value} {xs : List ByteArray} (h : W.ownsRow B 9 1 v xs.length (xs.map Value.string)) : StrRow W.heap.size W v xs := by
  rcases h.2 with ⟨rfl, h2⟩ | ⟨g, cap, cur, rfl, hb, hg, hn, _, hs, ht⟩
  · exact .inl ⟨rfl, List.eq_nil_of_length_eq_zero h2⟩
  · refine .inr ⟨g, cap, rfl, (Array.getElem?_eq_some_iff.1 hg).1, hn, fun j x hj => ?_⟩
    have hj' : j < xs.length := (List.getElem?_eq_some_iff.1 hj).1
    have e1 : (cur.toList.take (xs.length * 1))[j]? = some (.string x) := by rw [ht, List.getElem?_map, hj]; rfl
    rw [List.getElem?_take_of_lt (by omega)] at e1
    simp only [World.cell?, hg]
    simpa using e1
theorem owns_base {B B' n : Nat} {W : World} {v : Value} {xs : List Value} (hB : B ≤ B') (h : W.ownsRow B' 9 1 v n xs) : W.ownsRow B 9 1 v n xs := by
  refine ⟨h.1, ?_⟩
  rcases h.2 with h2 | ⟨g, cap, cur, e, hb, r⟩
  · exact .inl h2
  · exact .inr ⟨g, cap, cur, e, by omega, r⟩
theorem StrRow.more {B : Nat} {W : World} {v : Value} {xs : List ByteArray} (h : StrRow B W v xs) (hne : xs ≠ []) : ∃ g cap, v = .slice (some ⟨g, 0, none⟩) xs.length cap ∧ g < B ∧ xs.length ≤ cap ∧ ∀ (j : Nat) (x : ByteArray), xs[j]? = some x → W.cell? ⟨g, j, none⟩ = some (.string x) := by
  rcases h with ⟨_, rfl⟩ | h
  · exact absurd rfl hne
  · exact h
theorem addr_add (g j : Nat) : (⟨g, 0, none⟩ : Addr).add j = ⟨g, j, none⟩ := by
  unfold Addr.add
  by_cases h : j = 0
  · subst h; simp
  · simp [h]
theorem hide {p : Prop} (h : p) : Hid p := h
theorem unhide {p : Prop} (h : Hid p) : p := h.out
end Go.Proofs.YtfemboojdablhaaGreatDoor.Tre
namespace Go.Proofs.YtfemboojdablhaaGreatDoor.Tre
open Go.RowKit
theorem ret_str {a b : ByteArray} (h : a = b) : Ending.returned (.string a) = .returned (.string b) := by rw [h]
theorem emp_no {s : ByteArray} (h : 1 ≤ s.size) : s.toList.isEmpty = false := by
  cases hE : s.toList.isEmpty
  · rfl
  · exfalso
    rw [ByteArray.toList_eq] at hE
    have h2 := size_list s
    rw [List.isEmpty_iff.1 hE] at h2
    simp at h2; omega
theorem emp_yes {s : ByteArray} (h : s.size = 0) : s.toList.isEmpty = true := by
  have h2 := size_list s
  rw [h] at h2
  rw [ByteArray.toList_eq, List.isEmpty_iff]
  exact List.eq_nil_of_length_eq_zero h2
theorem emp_size {s : ByteArray} (h : s.toList.isEmpty = true) : s.size = 0 := by
  by_cases h0 : s.size = 0
  · exact h0
  · rw [emp_no (by omega)] at h; cases h
theorem emp_size_no {s : ByteArray} (h : s.toList.isEmpty = false) : 1 ≤ s.size := by
  by_cases h0 : s.size = 0
  · rw [emp_yes h0] at h; cases h
  · omega
end Go.Proofs.YtfemboojdablhaaGreatDoor.Tre
