/- Merged: IbP, IbC, LawJoins, IbE, IbQ. -/
import Derived.Test.YtfemboojdablhaaGreatDoorMi32
import Derived.Test.YtfemboojdablhaaGreatDoorMi33
import Derived.Test.YtfemboojdablhaaGreatDoorMi22
import Derived.Test.YtfemboojdablhaaGreatDoorMi23
import Derived.Laws.AppendOwnNone
import Derived.Test.YtfemboojdablhaaGreatDoorMi25
namespace Go.Proofs.YtfemboojdablhaaGreatDoor
open Go.RowKit Go.Shelf
open Tre (NodeD NodeRow dirD nameIs kidOf Sn)
theorem kid_find {L : List NodeD} {ks : List Nat} {x : ByteArray} : (kidOf L ks x = -1 ∧ ks.find? (nameIs L x) = none) ∨ ∃ c : Nat, kidOf L ks x = (c : Int) ∧ ks.find? (nameIs L x) = some c ∧ c ∈ ks := by
  unfold kidOf
  cases h : ks.find? (nameIs L x) with
  | none => exact .inl ⟨rfl, rfl⟩
  | some c => exact .inr ⟨c, rfl, rfl, List.mem_of_find?_eq_some h⟩
theorem owns_up {B B' t sz n : Nat} {W : World} {v : Value} {xs : List Value} (h : W.ownsRow B t sz v n xs) (hB : B' ≤ B) : W.ownsRow B' t sz v n xs := by
  refine ⟨h.1, ?_⟩
  rcases h.2 with h2 | ⟨g, cap, cur, e, hbb, r⟩
  · exact .inl h2
  · exact .inr ⟨g, cap, cur, e, Nat.le_trans hB hbb, r⟩
set_option maxRecDepth 100000 in
set_option maxHeartbeats 4000000 in
theorem rulesIn_any (a6 a2 a4 : Addr) (C g cap : Nat) (L : List NodeD) (hT : TOK L) (k : Nat) (n : NodeD) (hk : L[k]? = some n) (hdir : dirD n = true) (w : World) (hG : GW w) (hS : Sn C a6 a2 a4 w) (h10 : 14 ≤ C) (hrow : NodeRow C w (.slice (some ⟨g, 0, none⟩) L.length cap) L) (hC : C ≤ w.heap.size) :
    Calls Tryz.prog 52 #[.slice (some ⟨g, 0, none⟩) L.length cap, .int .i64 (k : Int)] w fun e w' => ∃ v, e = .returned v ∧ w'.ownsRow w.heap.size 153 4 v (rulesD L k).length (rulesL (rulesD L k)) ∧ Below w.heap.size w w' := by
  have hlt := (List.getElem?_eq_some_iff.1 hk).1
  have hlen := hT.len
  rcases kid_find (L := L) (ks := n.kids) (x := ignS) with ⟨hk0, hf⟩ | ⟨c, hkc, hf, hc⟩
  · have hFI := Tre.wtfind_none a6 a2 a4 C g cap L k w hT.kids n hk hdir hk0 hS h10 hrow hC
    have HR : Hid (rulesD L k = []) := by unfold Hid rulesD; rw [hk]; dsimp only; rw [hf]
    clear hk hf hk0 hrow hS hT
    go_enter Tryz.func52, Tryz.ntmps52
    go_wp2_with fail
    refine hFI.mono ?_
    rintro e w1 ⟨rfl, hb1⟩
    have HB := hide hb1
    clear hb1 hFI
    go_wp2
    go_ret
    rw [HR.out]
    exact ⟨_, rfl, World.ownsRow_nil _ _ _ _, HB.out⟩
  · obtain ⟨m, hm⟩ : ∃ m, L[c]? = some m := ⟨_, List.getElem?_eq_getElem ((hT.kids k n hk).2 c hc)⟩
    have hcl := (hT.kids k n hk).2 c hc
    have hcI : (c : Int) < (L.length : Int) := by omega
    have htx := hT.text c m hm
    have hch : Tre.ChainW L (Tre.partsS Tre.ignS) (fun j => if j = 0 then k else c) := by
      rw [Tre.parts_ign]
      intro j p hp
      cases j with
      | zero =>
        simp at hp
        subst hp
        exact ⟨⟨n, hk, hdir, hkc⟩, ⟨m, hm, fun _ => rfl⟩, by kernel_rfl, by kernel_rfl⟩
      | succ j => simp at hp
    have hFI0 := Tre.wtfind_any C g cap L (fun j => if j = 0 then k else c) Tre.ignS w hT.kids hch hlt (by decide) (by decide) (by decide) (by kernel_rfl) hrow hC
    have hFI : Calls Tryz.prog 43 #[.slice (some ⟨g, 0, none⟩) L.length cap, .int .i64 (k : Int), .string ignS, .bool false] w fun e w' => e = .returned (.tuple #[.int .i64 (c : Int), .int .i64 0]) ∧ Below w.heap.size w w' := by
      rw [Tre.parts_ign] at hFI0
      exact hFI0
    clear hFI0
    have HROW := hide hrow
    have HM := hide hm
    by_cases h102 : m.kind = 102
    · have hkb : (m.kind == 102) = true := by rw [h102]; rfl
      have HR : Hid (rulesD L k = rulesOf m.text) := by unfold Hid rulesD; rw [hk]; dsimp only; rw [hf]; dsimp only; rw [hm]; dsimp only; rw [if_pos h102]
      have HG := hide hG
      clear hk hf hkc hrow hS hT hm hch hG h102
      go_enter Tryz.func52, Tryz.ntmps52
      go_wp2_with fail
      refine hFI.mono ?_
      rintro e w1 ⟨rfl, hb1⟩
      obtain ⟨_, _, _, _, hge, _, _, ⟨m0, m1, m2, m3, m4, m5, m6⟩, _⟩ := (HROW.out.below (hb1.mono hC)).at HM.out
      cases hge
      have HB := hide hb1
      have hRD := readR_any m.text (by omega) w1 (HG.out.below hb1).mx (by have := (HG.out.below hb1).big; omega)
      clear hb1 hFI m1 m2 m3 m4 m6
      go_wp2_with fail
      refine hRD.mono ?_
      rintro e w2 ⟨v, rfl, hown, hb2⟩
      obtain ⟨va, vc, rfl⟩ : ∃ a c, v = .slice a (rulesOf m.text).length c := by
        rcases hown.2 with ⟨e, h0⟩ | ⟨g, c, cur, e, _⟩
        · exact ⟨none, 0, by rw [e, show (rulesOf m.text).length = 0 from h0]⟩
        · exact ⟨_, _, e⟩
      have HO := hide hown
      have HB2 := hide hb2
      clear hown hb2 hRD m0 m5
      go_wp2
      go_ret
      rw [HR.out]
      exact ⟨_, rfl, owns_up HO.out HB.out.size, HB.out.trans (HB2.out.mono HB.out.size)⟩
    · have hkb : (m.kind == 102) = false := by rw [beq_eq_false_iff_ne]; exact h102
      have HR : Hid (rulesD L k = []) := by unfold Hid rulesD; rw [hk]; dsimp only; rw [hf]; dsimp only; rw [hm]; dsimp only; rw [if_neg h102]
      clear hk hf hkc hrow hS hT hm hch hG h102
      go_enter Tryz.func52, Tryz.ntmps52
      go_wp2_with fail
      refine hFI.mono ?_
      rintro e w1 ⟨rfl, hb1⟩
      obtain ⟨_, _, _, _, hge, _, _, ⟨m0, m1, m2, m3, m4, m5, m6⟩, _⟩ := (HROW.out.below (hb1.mono hC)).at HM.out
      cases hge
      have HB := hide hb1
      clear hb1 hFI m1 m2 m3 m4 m5 m6
      go_wp2
      go_ret
      rw [HR.out]
      exact ⟨_, rfl, World.ownsRow_nil _ _ _ _, HB.out⟩
end Go.Proofs.YtfemboojdablhaaGreatDoor
namespace Go.Proofs.YtfemboojdablhaaGreatDoor
open Go.RowKit Go.Shelf
attribute [local go_sem] Oper.semAt_some
def encIR (x : Nat × RuleD) : Array Value := #[.int .i64 (x.1 : Int), ruleV x.2]
def RAt (A : World) (g i : Nat) (r : RuleD) : Prop := A.cell? ⟨g, i * 4, none⟩ = some (.bool r.nt) ∧ A.cell? ⟨g, i * 4 + 1, none⟩ = some (.bool r.dr) ∧ A.cell? ⟨g, i * 4 + 2, none⟩ = some (.bool r.fx) ∧ A.cell? ⟨g, i * 4 + 3, none⟩ = some (.string r.pt)
set_option maxRecDepth 100000 in
set_option maxHeartbeats 2000000 in
theorem backR_hands (b : Nat) (a : Option Addr) (cap : Nat) (xs : List RuleD) (hn : xs.length ≤ 1000000) : HandsC Tryz.prog 125 #[.pointer (some ⟨b, 0, none⟩)] encIR (revE xs) (fun C W => Boxed W b 110 (.slice a xs.length cap) ∧ ¬ C b) (fun x A => ∃ g, a = some ⟨g, 0, none⟩ ∧ xs.length ≤ cap ∧ RAt A g x.1 x.2) := by
  intro l J Jx C W hJ hJx hY hX hRd h0
  obtain ⟨hb, hCb⟩ := hRd
  have c0 := hb.cell
  refine callsIn_of_wp Tryz.func125 rfl trivial ?_ rfl
  simp only [Tryz.ntmps125, List.size_toArray, List.length_cons, List.length_nil, Nat.reduceAdd, Nat.reduceSub, Array.replicate_succ, Array.replicate_zero, List.push_toArray, List.append_toArray, List.nil_append, List.cons_append]
  gi_wp2
  clear c0
  gi_loopw [3] (fun kv wr => ∃ (i : Nat) (pre : List (Nat × RuleD)) (C : Nat → Prop), kv = .int .i64 ((i : Int) - 1) ∧ i ≤ xs.length ∧ J pre C wr ∧ Boxed wr b 110 (.slice a xs.length cap) ∧ ¬ C b ∧ pre ++ revE (xs.take i) = revE xs) (fun kv _ => (intOf kv + 1).toNat)
  case atStart => exact ⟨xs.length, [], C, rfl, Nat.le_refl _, h0, hb, hCb, by simp⟩
  case round =>
    obtain ⟨i, pre, C, rfl, hi, hJ1, hb1, hC1, hpre⟩ := hrel
    have c1 := hb1.cell
    cases i with
    | zero =>
      rw [List.take_zero, revE_nil, List.append_nil] at hpre
      rw [hpre] at hJ1
      gi_wp2
      go_end0
      exact ⟨⟨_, rfl⟩, C, .inl hJ1⟩
    | succ i =>
      have hlt : i < xs.length := by omega
      obtain ⟨x, hx⟩ : ∃ x, xs[i] = x := ⟨_, rfl⟩
      rw [revE_take hlt, hx] at hpre
      have hp : pre ++ [(i, x)] <+: revE xs := ⟨_, by rw [List.append_assoc]; exact hpre⟩
      obtain ⟨fn, tmps, assign, body, hy, hR⟩ := hY pre (i, x) C wr hp hJ1
      obtain ⟨g, rfl, hcap, hcell⟩ := hX pre (i, x) C wr hp hJ1
      have hy : (Instr.yield l #[.int .i64 (i : Int), .agg #[.bool x.nt, .bool x.dr, .bool x.fx, .string x.pt]]).run Tryz.prog wr = .ok (.round l fn tmps assign body) wr := hy
      obtain ⟨q0, q1, q2, q3⟩ : RAt wr g i x := hcell
      have HPRE := hide hpre
      clear hpre hp hx
      have e0 : ((i + 1 : Nat) : Int) - 1 = (i : Int) := by omega
      rw [e0]
      clear e0
      have h1 : (0 : Int) ≤ (i : Int) := by omega
      have h2 : (i : Int) < (xs.length : Int) := by omega
      gi_wp2_with (refine ⟨trivial, ?_⟩)
      refine ⟨rfl, hR.mono ?_⟩
      rintro e W3 ⟨C', ht, (⟨rfl, hj⟩ | ⟨rfl, hj⟩)⟩
      · have hC2 := keep_not ht hb1.lt hC1
        have hb2 := boxed_turn ht hb1 hC1
        clear ht
        gi_wp2
        case roundEnd =>
          refine ⟨⟨i, pre ++ [(i, x)], C', by simp, by omega, hj, hb2, hC2, by rw [List.append_assoc]; exact HPRE.out⟩, ?_⟩
          simp [intOf]
      · clear ht
        gi_wp2
        exact bodyPost_ret (results_none rfl _ _ _) rfl ⟨⟨_, rfl⟩, C', .inr hj⟩
end Go.Proofs.YtfemboojdablhaaGreatDoor
namespace Go.Proofs.YtfemboojdablhaaGreatDoor
open Go.RowKit
theorem suffix_eq {a : ByteArray} (h : 1 ≤ a.size) : ((a.extract (a.size - 1) a.size).toList == [47]) = endsSlash a := by
  rw [ends_get h, Bool.eq_iff_iff, beq_iff_eq, decide_eq_true_eq, ByteArray.toList_eq, extract_bs, data_bs, drop_get a (a.size - 1) (by omega), show a.size - (a.size - 1) = 1 from by omega]
  simp only [List.take_succ_cons, List.take_zero, List.cons.injEq, and_true]
  constructor
  · intro h; rw [h]; rfl
  · intro h; exact UInt8.toNat_inj.1 (by have : (47 : UInt8).toNat = 47 := rfl; omega)
set_option maxHeartbeats 1000000 in
theorem suffix_any (a : ByteArray) (w : World) (h1 : 1 ≤ a.size) (hs : a.size ≤ 1073741824) :
    Calls Tryz.prog 117 #[.string a, .string ⟨#[47]⟩] w fun e w' => e = .returned (.bool (endsSlash a)) ∧ w' = w := by
  have he := suffix_eq h1
  go_enter Tryz.func117, Tryz.ntmps117
  go_wp2
  go_ret
  exact ⟨rfl, rfl⟩
theorem join_plain {a b : ByteArray} (h : (a.toList.isEmpty || endsSlash a) = true) : a ++ b = joinS a b := by unfold joinS; rw [if_pos h]
theorem join_mid {a b : ByteArray} (h : (a.toList.isEmpty || endsSlash a) = false) : a ++ ⟨#[47]⟩ ++ b = joinS a b := by unfold joinS; rw [h]; rfl
set_option maxHeartbeats 1000000 in
theorem join_any (a b : ByteArray) (w : World) (ha : a.size ≤ 1073741824) (hb : b.size ≤ 1073741824) :
    Calls Tryz.prog 90 #[.string a, .string b] w fun e w' => e = .returned (.string (joinS a b)) ∧ w' = w := by
  cases he : a.toList.isEmpty
  · have h1 := emp_size_no he
    cases hs : endsSlash a
    · have HJ : Hid (a ++ ⟨#[47]⟩ ++ b = joinS a b) := join_mid (by rw [he, hs]; rfl)
      go_enter Tryz.func90, Tryz.ntmps90
      go_wp2_with (go_at_call 117; refine (suffix_any a _ h1 ha).mono ?_; rintro e w' ⟨rfl, rfl⟩)
      go_ret
      exact ⟨ret_str HJ.out, rfl⟩
    · have HJ : Hid (a ++ b = joinS a b) := join_plain (by rw [he, hs]; rfl)
      go_enter Tryz.func90, Tryz.ntmps90
      go_wp2_with (go_at_call 117; refine (suffix_any a _ h1 ha).mono ?_; rintro e w' ⟨rfl, rfl⟩)
      go_ret
      exact ⟨ret_str HJ.out, rfl⟩
  · have HJ : Hid (a ++ b = joinS a b) := join_plain (by rw [he]; rfl)
    go_enter Tryz.func90, Tryz.ntmps90
    go_wp2
    go_ret
    exact ⟨ret_str HJ.out, rfl⟩
end Go.Proofs.YtfemboojdablhaaGreatDoor
namespace Go.Proofs.YtfemboojdablhaaGreatDoor
open Go.RowKit Go.Shelf
open Tre (NodeD NodeRow)
attribute [local go_sem] Oper.semAt_some
theorem TurnC.below {C C' : Nat → Prop} {A A' : World} {D : Nat} (h : TurnC C C' A A') (hC : ∀ k, C k → D ≤ k) (hD : D ≤ A.heap.size) : Below D A A' :=
  ⟨h.os, h.tape, h.output, h.size, fun k hk => h.block k (by omega) (fun q => by have := hC k q; omega)⟩
def encDir (x : Nat × ByteArray) : Array Value := #[.int .i64 (x.1 : Int), .string x.2]
structure DirRd (L : List NodeD) (v : Value) (D bk bl k : Nat) (C : Nat → Prop) (W : World) : Prop where
  k : Boxed W bk 3 (.int .i64 (k : Int))
  l : Boxed W bl 31 v
  row : NodeRow D W v L
  cD : ∀ j, C j → D ≤ j
  nk : ¬ C bk
  nl : ¬ C bl
  hD : D ≤ W.heap.size
theorem DirRd.turn {L : List NodeD} {v : Value} {D bk bl k : Nat} {C C' : Nat → Prop} {A A' : World} (h : DirRd L v D bk bl k C A) (ht : TurnC C C' A A') : DirRd L v D bk bl k C' A' :=
  ⟨boxed_turn ht h.k h.nk, boxed_turn ht h.l h.nl, h.row.below (ht.below h.cD h.hD), fun j hj => by
    rcases ht.new j hj with q | q
    · exact h.cD j q
    · exact Nat.le_trans h.hD q, keep_not ht h.k.lt h.nk, keep_not ht h.l.lt h.nl, Nat.le_trans h.hD ht.size⟩
theorem dirs_step {L : List NodeD} {f k a : Nat} {w : ByteArray} {n m : NodeD} (hn : L[k]? = some n) (hu : n.up = (a : Int)) (ha : a < k) (hm : L[a]? = some m) : dirsD L (f + 1) k w = (a, w) :: dirsD L f a (joinS m.name w) := by
  show (match L[k]? with
    | some n => if 0 ≤ n.up ∧ n.up < (k : Int) then (n.up.toNat, w) :: (match L[n.up.toNat]? with
        | some m => dirsD L f n.up.toNat (joinS m.name w)
        | none => []) else []
    | none => []) = _
  rw [hn]
  have e : n.up.toNat = a := by omega
  dsimp only
  rw [if_pos (by omega), e, hm]
theorem dirs_stop {L : List NodeD} {f k : Nat} {w : ByteArray} {n : NodeD} (hn : L[k]? = some n) (hu : n.up = -1) : dirsD L (f + 1) k w = [] := by
  show (match L[k]? with
    | some n => if 0 ≤ n.up ∧ n.up < (k : Int) then (n.up.toNat, w) :: (match L[n.up.toNat]? with
        | some m => dirsD L f n.up.toNat (joinS m.name w)
        | none => []) else []
    | none => []) = _
  rw [hn]
  dsimp only
  rw [if_neg (by omega)]
set_option maxRecDepth 100000 in
set_option maxHeartbeats 4000000 in
theorem dirs_hands (L : List NodeD) (hT : TOK L) (a0 : Option Addr) (cap D bk bl k : Nat) (hk : k < L.length) : HandsC Tryz.prog 89 #[.pointer (some ⟨bk, 0, none⟩), .pointer (some ⟨bl, 0, none⟩)] encDir (dirsK L k) (DirRd L (.slice a0 L.length cap) D bk bl k) (fun _ _ => True) := by
  intro l J Jx C W hJ hJx hY _ hRd h0
  obtain ⟨n, hn⟩ : ∃ n, L[k]? = some n := ⟨_, List.getElem?_eq_getElem hk⟩
  have hlen := hT.len
  have HT := hide hT
  have ck := hRd.k.cell
  have cl := hRd.l.cell
  obtain ⟨g, ka, km, kc, hge, hg, hcap, ⟨n0, n1, n2, _, _, _, _⟩, _⟩ := hRd.row.at hn
  cases hge
  have hkI : (k : Int) < (L.length : Int) := by omega
  refine callsIn_of_wp Tryz.func89 rfl trivial ?_ rfl
  simp only [Tryz.ntmps89, List.size_toArray, List.length_cons, List.length_nil, Nat.reduceAdd, Nat.reduceSub, Array.replicate_succ, Array.replicate_zero, List.push_toArray, List.append_toArray, List.nil_append, List.cons_append]
  gi_wp2
  refine (fun (KEY : (?G : Prop)) => ?main) ?key
  case main =>
    gi_region
    all_goals exact KEY
  case key =>
    have hRd1 : DirRd L (.slice (some ⟨g, 0, none⟩) L.length cap) D bk bl k C W.drew := hRd.turn ⟨rfl, rfl, rfl, Nat.le_refl _, fun _ _ _ => rfl, fun _ h => .inl h⟩
    have h01 : J [] C W.drew := (hJ []).keep _ _ _ h0 ⟨rfl, rfl, rfl, Nat.le_refl _, fun _ _ _ => rfl⟩
    have cl1 := hRd1.l.cell
    have n2' : W.drew.cell? ⟨g, k * 7 + 2, none⟩ = some (.int .i64 n.up) := n2
    have HS := hide (hT.name k n hn)
    clear n0 n1 n2 ck cl hRd h0 hJ hJx
    obtain ⟨W1, hW1⟩ : ∃ W1, W.drew = W1 := ⟨_, rfl⟩
    rw [hW1] at hRd1 h01 cl1 n2' ⊢
    clear hW1
    have HN := hide hn
    clear hn hT
    gi_wp2
    clear cl1 n2'
    gi_loopw [4, 5, 6] (fun av wv uv wr => ∃ (i f : Nat) (way : ByteArray) (m : NodeD) (pre : List (Nat × ByteArray)) (C : Nat → Prop), av = .int .i64 (i : Int) ∧ wv = .string way ∧ uv = .int .i64 m.up ∧ L[i]? = some m ∧ i ≤ k ∧ i < f ∧ way.size + 61 * i ≤ 61 * k + 60 ∧ J pre C wr ∧ DirRd L (.slice (some ⟨g, 0, none⟩) L.length cap) D bk bl k C wr ∧ pre ++ dirsD L f i way = dirsK L k) (fun _ _ uv _ => (intOf uv + 1).toNat)
    case atStart =>
      refine ⟨k, k + 1, n.name, n, [], C, rfl, rfl, rfl, HN.out, Nat.le_refl _, Nat.lt_succ_self _, by have := HS.out; omega, h01, hRd1, ?_⟩
      show dirsD L (k + 1) k n.name = dirsD L (k + 1) k (nameD L k)
      unfold nameD
      rw [HN.out]
    case round =>
      obtain ⟨i, f, way, m, pre, C, rfl, rfl, rfl, hm, hik, hif, hws, hJ1, hR1, hpre⟩ := hrel
      obtain ⟨f, rfl⟩ : ∃ f', f = f' + 1 := ⟨f - 1, by omega⟩
      by_cases hi0 : i = 0
      · subst hi0
        have hup := HT.out.root m hm
        rw [dirs_stop hm hup, List.append_nil] at hpre
        rw [hpre] at hJ1
        rw [hup]
        clear hm hup
        gi_wp2
        go_end0
        exact ⟨⟨_, rfl⟩, C, .inl hJ1⟩
      · obtain ⟨a, ha, hai, x, hx, _⟩ := HT.out.up i m hm (by omega)
        have hxs := HT.out.name a x hx
        rw [dirs_step hm ha hai hx] at hpre
        obtain ⟨fn, tmps, assign, body, hy, hR⟩ := hY pre (a, way) C wr ⟨_, by rw [List.append_assoc]; exact hpre⟩ hJ1
        have hy : (Instr.yield l #[.int .i64 (a : Int), .string way]).run Tryz.prog wr = .ok (.round l fn tmps assign body) wr := hy
        have HPRE := hide hpre
        have HX := hide hx
        rw [ha]
        clear hpre hm hx
        have g1 : (0 : Int) ≤ (a : Int) := by omega
        have g2 : (a : Int) < (i : Int) := by omega
        have g3 : (a : Int) < (L.length : Int) := by omega
        gi_wp2_with (refine ⟨trivial, ?_⟩)
        refine ⟨rfl, hR.mono ?_⟩
        rintro e W3 ⟨C', ht, (⟨rfl, hj⟩ | ⟨rfl, hj⟩)⟩
        · have hR2 := hR1.turn ht
          have cl2 := hR2.l.cell
          obtain ⟨_, _, _, _, hge, _, _, ⟨_, x1, x2, _, _, _, _⟩, _⟩ := hR2.row.at HX.out
          cases hge
          clear ht hy hR hR1 hJ1
          gi_wp2_with fail
          refine ⟨trivial, rfl, CallsIn.mono (callsIn_wide.2 (join_any _ _ _ (by omega) (by omega))) ?_⟩
          rintro e w' ⟨rfl, rfl⟩
          gi_wp2
          case roundEnd =>
            refine ⟨⟨a, f, joinS x.name way, x, pre ++ [(a, way)], C', rfl, rfl, rfl, HX.out, by omega, by omega, by have := joinS_size x.name way; omega, hj, hR2, by rw [List.append_assoc]; exact HPRE.out⟩, ?_⟩
            have : x.up < (a : Int) := by
              by_cases ha0 : a = 0
              · subst ha0
                rw [HT.out.root x HX.out]; omega
              · obtain ⟨b, hb, hba, _⟩ := HT.out.up a x HX.out (by omega)
                omega
            simp [intOf]; omega
        · clear ht
          gi_wp2
          exact bodyPost_ret (results_none rfl _ _ _) rfl ⟨⟨_, rfl⟩, C', .inr hj⟩
end Go.Proofs.YtfemboojdablhaaGreatDoor
namespace Go.Proofs.YtfemboojdablhaaGreatDoor
open Go.RowKit Go.Shelf Go.Maps
open Tre (NodeD NodeRow dirD Sn)
def heldRd (v : Value) : Option (DataW Value × List MemPlace) := some (.held v, [])
def kl (k : Nat) : Lit := .int .i64 (k : Int)
theorem Tryz.underlying3k : Tryz.prog.underlying 3 = some (.int .i64) := by kernel_rfl
theorem key3 : Keyed Tryz.prog 3 := int_keyed Tryz.underlying3k
theorem keyOf_kl {k : Nat} (h : k ≤ 1000000) : keyOf Tryz.prog 3 (.int .i64 (k : Int)) = some (kl k) := keyOf_int_mk Tryz.underlying3k (by
  have h1 : IntKind.i64.min = -9223372036854775808 := rfl
  have h2 : IntKind.i64.max = 9223372036854775807 := rfl
  simp [Lit.wf]
  omega)
theorem kl_ne {a b : Nat} (h : a ≠ b) : kl a ≠ kl b := fun e => h (by unfold kl at e; injection e with _ e; omega)
theorem kl_key (k : Nat) : WideAt.IsKeyLit (kl k) := by unfold kl WideAt.IsKeyLit; trivial
def Few (D : DataW Value) : Prop := ∃ es, D = .map es ∧ es.Pairwise (fun p q => p.1 ≠ q.1) ∧ ∀ p ∈ es, ∃ k : Nat, k ≤ 1000000 ∧ p.1 = kl k
theorem few_empty : Few (.map []) := ⟨[], rfl, List.Pairwise.nil, fun p h => by cases h⟩
theorem mem_ins {x y : Lit × DataW Value} : ∀ {l : List (Lit × DataW Value)}, y ∈ DataW.insert x l → y = x ∨ y ∈ l
  | [], h => by simp only [DataW.insert, List.mem_singleton] at h; exact .inl h
  | z :: r, h => by
    unfold DataW.insert at h
    split at h
    · rcases List.mem_cons.1 h with h | h
      · exact .inl h
      · exact .inr h
    · rcases List.mem_cons.1 h with h | h
      · exact .inr (by rw [h]; simp)
      · rcases mem_ins h with h | h
        · exact .inl h
        · exact .inr (by simp [h])
theorem Few.put {D : DataW Value} (h : Few D) {k : Nat} (hk : k ≤ 1000000) (d : DataW Value) : Few (D.put (kl k) d) := by
  obtain ⟨es, rfl, h1, h2⟩ := h
  obtain ⟨es', e', h1'⟩ := Tidy.put (D := .map es) (k := kl k) ⟨es, rfl, h1⟩ (kl_key k) d
  refine ⟨es', e', h1', fun p hp => ?_⟩
  have e2 : es' = DataW.insert (kl k, d) (es.filter fun p => !p.1.sameKey (kl k)) := by
    have : DataW.map (DataW.insert (kl k, d) (es.filter fun p => !p.1.sameKey (kl k))) = DataW.map es' := e'
    injection this with this
    exact this.symm
  rw [e2] at hp
  rcases mem_ins hp with rfl | hp
  · exact ⟨k, hk, rfl⟩
  · exact h2 p (List.mem_filter.1 hp).1
theorem nodup_lt : ∀ (N : Nat) (l : List Nat), l.Nodup → (∀ x ∈ l, x < N) → l.length ≤ N
  | 0, l, _, h => by
    cases l with
    | nil => exact Nat.le_refl _
    | cons a r => exact absurd (h a (by simp)) (by omega)
  | N + 1, l, hn, h => by
    have h1 := nodup_lt N (l.filter (fun x => decide (x ≠ N))) (hn.filter _) (fun x hx => by
      obtain ⟨q1, q2⟩ := List.mem_filter.1 hx
      have := h x q1
      simp at q2
      omega)
    have h2 : l.length = (l.filter (fun x => decide (x ≠ N))).length + (l.filter (fun x => !decide (x ≠ N))).length := by
      rw [← List.countP_eq_length_filter, ← List.countP_eq_length_filter]
      exact List.length_eq_countP_add_countP (fun x => decide (x ≠ N)) |>.trans (by congr 1; apply List.countP_congr; intro x _; simp)
    have h3 : (l.filter (fun x => !decide (x ≠ N))).length ≤ 1 := by
      have e : (l.filter (fun x => !decide (x ≠ N))).length = l.count N := by
        rw [← List.countP_eq_length_filter, List.count]
        apply List.countP_congr
        intro x _
        simp
      rw [e]
      exact List.nodup_iff_count.1 hn N
    omega
theorem Few.size {D : DataW Value} (h : Few D) : ∃ es, D = .map es ∧ es.length ≤ 1000001 := by
  obtain ⟨es, rfl, h1, h2⟩ := h
  refine ⟨es, rfl, ?_⟩
  have hex : ∀ p ∈ es, ∃ k : Nat, k < 1000001 ∧ p.1 = kl k := fun p hp => by
    obtain ⟨k, hk, e⟩ := h2 p hp
    exact ⟨k, by omega, e⟩
  clear h2
  have key : ∃ l : List Nat, l.length = es.length ∧ l.Nodup ∧ (∀ x ∈ l, x < 1000001) ∧ ∀ x ∈ l, ∃ p ∈ es, p.1 = kl x := by
    induction es with
    | nil => exact ⟨[], rfl, List.nodup_nil, (fun x h => by cases h), (fun x h => by cases h)⟩
    | cons p r ih =>
      rw [List.pairwise_cons] at h1
      obtain ⟨l, a1, a2, a3, a4⟩ := ih h1.2 (fun q hq => hex q (by simp [hq]))
      obtain ⟨k, hk, e⟩ := hex p (by simp)
      refine ⟨k :: l, by simp [a1], List.nodup_cons.2 ⟨fun hm => ?_, a2⟩, fun x hx => ?_, fun x hx => ?_⟩
      · obtain ⟨q, hq, e2⟩ := a4 k hm
        exact h1.1 q hq (e.trans e2.symm)
      · rcases List.mem_cons.1 hx with rfl | hx
        · exact hk
        · exact a3 x hx
      · rcases List.mem_cons.1 hx with rfl | hx
        · exact ⟨p, by simp, e⟩
        · obtain ⟨q, hq, e2⟩ := a4 x hx
          exact ⟨q, by simp [hq], e2⟩
  obtain ⟨l, a1, a2, a3, _⟩ := key
  rw [← a1]
  exact nodup_lt _ l a2 a3
def Memo (bm n : Nat) (Ok : Nat → Value → Prop) (W : World) : Prop :=
  ∃ D : DataW Value, W.ownsMap Tryz.prog 3 heldRd bm n D ∧ Few D ∧ IsMap D ∧ ∀ k : Nat, has D (kl k) = true → ∃ v, (∀ z, D.atKey (kl k) z = .held v) ∧ Ok k v
theorem Memo.lt {bm n : Nat} {Ok : Nat → Value → Prop} {W : World} (h : Memo bm n Ok W) : bm < W.heap.size := by
  obtain ⟨D, ⟨es, c, hb, _⟩, _⟩ := h
  exact (Array.getElem?_eq_some_iff.1 hb).1
theorem Memo.keep {bm n : Nat} {Ok Ok' : Nat → Value → Prop} {W W' : World} (h : Memo bm n Ok W) (hb : W'.heap[bm]? = W.heap[bm]?) (hO : ∀ k v, Ok k v → Ok' k v) : Memo bm n Ok' W' := by
  obtain ⟨D, ⟨es, c, h1, h2⟩, hf, hm, hg⟩ := h
  refine ⟨D, ⟨es, c, hb.trans h1, h2⟩, hf, hm, fun k hk => ?_⟩
  obtain ⟨v, a, b⟩ := hg k hk
  exact ⟨v, a, hO k v b⟩
theorem Memo.look {bm n t e : Nat} {Ok : Nat → Value → Prop} {W : World} (h : Memo bm n Ok W) (ht : Tryz.prog.underlying t = some (.map 3 e)) {z : Value} (hz : (zeroValue e).run Tryz.prog W = .ok z W) {k : Nat} (hk : k ≤ 1000000) :
    ((Instr.lookup t (.map (some bm)) (.int .i64 (k : Int)) true).run Tryz.prog W = .ok (.tuple #[z, .bool false]) W) ∨ ∃ v, (Instr.lookup t (.map (some bm)) (.int .i64 (k : Int)) true).run Tryz.prog W = .ok (.tuple #[v, .bool true]) W ∧ Ok k v := by
  obtain ⟨D, hown, _, hm, hg⟩ := h
  obtain ⟨v, ps, hrun, hv⟩ := hown.look_ok key3 ht hz (zd := .held z) (zp := []) rfl (keyOf_kl hk)
  have hv2 : DataW.held v = D.atKey (kl k) (.held z) := (Prod.mk.injEq _ _ _ _ ▸ (Option.some.inj hv)).1
  cases hh : has D (kl k) with
  | false =>
    rw [hh] at hrun
    rw [atKey_of_not_has hh] at hv2
    injection hv2 with e
    subst e
    exact .inl hrun
  | true =>
    rw [hh] at hrun
    obtain ⟨u, hu, hO⟩ := hg k hh
    rw [hu] at hv2
    injection hv2 with e
    subst e
    exact .inr ⟨_, hrun, hO⟩
theorem Memo.put {bm n t e : Nat} {Ok : Nat → Value → Prop} {W : World} (h : Memo bm n Ok W) (ht : Tryz.prog.underlying t = some (.map 3 e)) (hn : n ≤ 1000000000) {k : Nat} (hk : k ≤ 1000000) {v : Value} (hv : Ok k v) :
    ∃ W', (Instr.mapUpdate t (.map (some bm)) (.int .i64 (k : Int)) v).run Tryz.prog W = .ok () W' ∧ Memo bm (n + 1) Ok W' ∧ W.grownBy W' (some bm) := by
  obtain ⟨D, hown, hf, hm, hg⟩ := h
  obtain ⟨W', hrun, hup, hgr⟩ := World.ownsMap.update (val := v) (d := .held v) (ps := []) hown key3 ht (by unfold maxLen; omega) (keyOf_kl hk) rfl
  refine ⟨W', hrun, ⟨_, hup, hf.put hk _, hm.put _ _, fun j hj => ?_⟩, hgr⟩
  by_cases e : j = k
  · subst e
    exact ⟨v, fun z => atKey_put_same hm (kl_key _) _ _, hv⟩
  · rw [has_put_other (kl_ne e)] at hj
    obtain ⟨u, h1, h2⟩ := hg j hj
    exact ⟨u, fun z => by rw [atKey_put_other (kl_ne e)]; exact h1 z, h2⟩
theorem Memo.small {bm n : Nat} {Ok : Nat → Value → Prop} {W : World} (h : Memo bm n Ok W) : Memo bm 1000001 Ok W := by
  obtain ⟨D, ⟨es, c, h1, h2, h3, h4⟩, hf, hm, hg⟩ := h
  obtain ⟨es', e', hl⟩ := hf.size
  refine ⟨D, ⟨es, c, h1, h2, ?_, h4⟩, hf, hm, hg⟩
  have : DataW.map es' = DataW.map ((es.toList.map (WideElems.rg Tryz.prog 3 heldRd)).foldr DataW.insert []) := e'.symm.trans h4
  injection this with this
  rw [this, length_sorted, List.length_map, Array.length_toList] at hl
  exact hl
def RuRow (S : Nat → Prop) (W : World) (v : Value) (rs : List RuleD) : Prop := (v = .slice none 0 0 ∧ rs = []) ∨ ∃ g cap, v = .slice (some ⟨g, 0, none⟩) rs.length cap ∧ rs.length ≤ cap ∧ g < W.heap.size ∧ ¬ S g ∧ ∀ (i : Nat) (r : RuleD), rs[i]? = some r → RAt W g i r
theorem RAt.block {W W' : World} {g i : Nat} {r : RuleD} (h : RAt W g i r) (hb : W'.heap[g]? = W.heap[g]?) : RAt W' g i r := by
  have key : ∀ j, W'.cell? ⟨g, j, none⟩ = W.cell? ⟨g, j, none⟩ := fun j => by unfold World.cell?; rw [show W'.heap[(⟨g, j, none⟩ : Addr).block]? = W.heap[g]? from hb]
  exact ⟨(key _).trans h.1, (key _).trans h.2.1, (key _).trans h.2.2.1, (key _).trans h.2.2.2⟩
theorem RuRow.turn {S C C' : Nat → Prop} {W W' : World} {v : Value} {rs : List RuleD} (h : RuRow S W v rs) (ht : TurnC C C' W W') (hC : ∀ b, b < W.heap.size → C b → S b) : RuRow S W' v rs := by
  rcases h with h | ⟨g, cap, e, hc, hg, hS, hx⟩
  · exact .inl h
  · exact .inr ⟨g, cap, e, hc, Nat.lt_of_lt_of_le hg ht.size, hS, fun i r hi => (hx i r hi).block (ht.block g hg (fun q => hS (hC g hg q)))⟩
theorem RuRow.of_owns {S : Nat → Prop} {B : Nat} {W : World} {v : Value} {rs : List RuleD} (h : W.ownsRow B 153 4 v rs.length (rulesL rs)) (hS : ∀ b, S b → b < B) : RuRow S W v rs := by
  rcases h.2 with ⟨e, h0⟩ | ⟨g0, cap0, cur, e, hb, hg, _⟩
  · exact .inl ⟨e, List.eq_nil_of_length_eq_zero h0⟩
  · rcases RRow.of_owns h with h1 | ⟨g, cap, e', hg', hc, _, hx⟩
    · exact .inl h1
    · rw [e] at e'
      injection e' with e1
      injection e1 with e1
      injection e1 with e1
      subst e1
      exact .inr ⟨g0, cap, by rw [e]; congr 1, hc, hg', fun q => by have := hS _ q; omega, hx⟩
theorem RuRow.lessB {S S' : Nat → Prop} {W : World} {v : Value} {rs : List RuleD} (h : RuRow S' W v rs) (hS : ∀ b, b < W.heap.size → S b → S' b) : RuRow S W v rs := by
  rcases h with h | ⟨g, cap, e, hc, hg, hn, hx⟩
  · exact .inl h
  · exact .inr ⟨g, cap, e, hc, hg, fun q => hn (hS g hg q), hx⟩
structure Env (S : Nat → Prop) (L : List NodeD) (g cap D bl br ba1 bk1 ba2 bk2 m1 m2 : Nat) (a6 a2 a4 : Addr) (n1 n2 : Nat) (W : World) : Prop where
  row : NodeRow D W (.slice (some ⟨g, 0, none⟩) L.length cap) L
  gw : GW W
  sn : Sn D a6 a2 a4 W
  d10 : 14 ≤ D
  s1 : S m1
  s2 : S m2
  dl : D ≤ bl ∧ D ≤ br ∧ D ≤ ba1 ∧ D ≤ bk1 ∧ D ≤ ba2 ∧ D ≤ bk2 ∧ D ≤ m1 ∧ D ≤ m2
  ne1 : m1 ≠ bl ∧ m1 ≠ br ∧ m1 ≠ ba1 ∧ m1 ≠ bk1 ∧ m1 ≠ ba2 ∧ m1 ≠ bk2 ∧ m1 ≠ m2
  ne2 : m2 ≠ bl ∧ m2 ≠ br ∧ m2 ≠ ba1 ∧ m2 ≠ bk1 ∧ m2 ≠ ba2 ∧ m2 ≠ bk2
  xl : Boxed W bl 31 (.slice (some ⟨g, 0, none⟩) L.length cap)
  xr : Boxed W br 108 (.func (.func 83) #[] #[.pointer (some ⟨ba1, 0, none⟩), .pointer (some ⟨bk1, 0, none⟩)])
  xa1 : Boxed W ba1 139 (.map (some m1))
  xk1 : Boxed W bk1 108 (.func (.func 51) #[] #[.pointer (some ⟨bl, 0, none⟩)])
  xa2 : Boxed W ba2 144 (.map (some m2))
  xk2 : Boxed W bk2 75 (.func (.func 54) #[] #[.pointer (some ⟨bl, 0, none⟩), .pointer (some ⟨br, 0, none⟩)])
  map1 : Memo m1 n1 (fun k v => ∃ a m c, v = .agg #[.slice a m c] ∧ RuRow S W (.slice a m c) (rulesD L k)) W
  map2 : Memo m2 n2 (fun k v => v = .agg #[.bool (saysD L k)]) W
section
variable {S : Nat → Prop} {L : List NodeD} {g cap D bl br ba1 bk1 ba2 bk2 m1 m2 : Nat} {a6 a2 a4 : Addr} {n1 n2 : Nat} {W W' : World}
theorem Env.turn {C C' : Nat → Prop} (h : Env S L g cap D bl br ba1 bk1 ba2 bk2 m1 m2 a6 a2 a4 n1 n2 W) (ht : TurnC C C' W W') (hC : ∀ b, b < W.heap.size → C b → False) : Env S L g cap D bl br ba1 bk1 ba2 bk2 m1 m2 a6 a2 a4 n1 n2 W' := by
  have hb : Below W.heap.size W W' := ⟨ht.os, ht.tape, ht.output, ht.size, fun k hk => ht.block k hk (fun q => hC k hk q)⟩
  have hD : D ≤ W.heap.size := by have := h.xl.lt; have := h.dl; omega
  have bx : ∀ {b : Nat} {t : TypeId} {v : Value}, Boxed W b t v → Boxed W' b t v := fun q => (hb.block _ q.lt).trans q
  exact ⟨h.row.below (hb.mono hD), h.gw.below hb, h.sn.below (hb.mono hD) h.d10, h.d10, h.s1, h.s2, h.dl, h.ne1, h.ne2, bx h.xl, bx h.xr, bx h.xa1, bx h.xk1, bx h.xa2, bx h.xk2,
    h.map1.keep (hb.block _ h.map1.lt) (fun _ _ ⟨a, m, c, e, q⟩ => ⟨a, m, c, e, q.turn ht (fun b hlt q => (hC b hlt q).elim)⟩), h.map2.keep (hb.block _ h.map2.lt) (fun _ _ q => q)⟩
theorem Env.below (h : Env S L g cap D bl br ba1 bk1 ba2 bk2 m1 m2 a6 a2 a4 n1 n2 W) (hb : Below W.heap.size W W') : Env S L g cap D bl br ba1 bk1 ba2 bk2 m1 m2 a6 a2 a4 n1 n2 W' :=
  h.turn (TurnC.of_below (C := fun _ => False) hb) (fun _ _ q => q)
theorem Env.put1 (h : Env S L g cap D bl br ba1 bk1 ba2 bk2 m1 m2 a6 a2 a4 n1 n2 W) (hg : W.grownBy W' (some m1)) (hm : Memo m1 (n1 + 1) (fun k v => ∃ a m c, v = .agg #[.slice a m c] ∧ RuRow S W (.slice a m c) (rulesD L k)) W') : Env S L g cap D bl br ba1 bk1 ba2 bk2 m1 m2 a6 a2 a4 (n1 + 1) n2 W' := by
  have ht : TurnC (fun k => k = m1) (fun k => k = m1) W W' := ⟨hg.os, hg.tape, hg.output, hg.size, fun k hk hc => hg.block k hk (fun e => hc (Option.some.inj e)), fun _ q => .inl q⟩
  have hD : D ≤ W.heap.size := by have := h.xl.lt; have := h.dl; omega
  have hb : Below D W W' := turn_below ht (fun k q => by have := h.dl; omega) hD
  have h10 : Below 14 W W' := hb.mono h.d10
  have n := h.ne1
  exact ⟨h.row.below hb, h.gw.teller_keep h10, h.sn.below hb h.d10, h.d10, h.s1, h.s2, h.dl, h.ne1, h.ne2, boxed_turn ht h.xl (Ne.symm n.1), boxed_turn ht h.xr (Ne.symm n.2.1), boxed_turn ht h.xa1 (Ne.symm n.2.2.1), boxed_turn ht h.xk1 (Ne.symm n.2.2.2.1), boxed_turn ht h.xa2 (Ne.symm n.2.2.2.2.1), boxed_turn ht h.xk2 (Ne.symm n.2.2.2.2.2.1),
    hm.keep rfl (fun _ _ ⟨a, m, c, e, q⟩ => ⟨a, m, c, e, q.turn ht (fun b _ q => by rw [q]; exact h.s1)⟩), h.map2.keep (ht.block _ h.map2.lt (Ne.symm n.2.2.2.2.2.2)) (fun _ _ q => q)⟩
theorem Env.less {S' : Nat → Prop} (h : Env S L g cap D bl br ba1 bk1 ba2 bk2 m1 m2 a6 a2 a4 n1 n2 W) (h1 : S' m1) (h2 : S' m2) (hS : ∀ b, b < W.heap.size → S' b → S b) : Env S' L g cap D bl br ba1 bk1 ba2 bk2 m1 m2 a6 a2 a4 n1 n2 W :=
  { h with
    s1 := h1
    s2 := h2
    map1 := h.map1.keep rfl (fun _ _ ⟨a, m, c, e, q⟩ => ⟨a, m, c, e, q.lessB hS⟩) }
end
end Go.Proofs.YtfemboojdablhaaGreatDoor
