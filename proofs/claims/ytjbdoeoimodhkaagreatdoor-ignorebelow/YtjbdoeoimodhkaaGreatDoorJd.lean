/- Merged: IbC, LawJoins, IbE, IbQ, IbR. -/
import Derived.Test.YtjbdoeoimodhkaaGreatDoorJig
import Derived.Test.YtjbdoeoimodhkaaGreatDoorJa
import Derived.Test.YtjbdoeoimodhkaaGreatDoorJba
import Derived.Laws.AppendOwnNone
import Derived.Test.YtjbdoeoimodhkaaGreatDoorJts
import Derived.Test.YtjbdoeoimodhkaaGreatDoorJc
/- slices.Backward, handed out: rules. -/
namespace Go.Proofs.YtjbdoeoimodhkaaGreatDoor
open Go.RowKit Go.Shelf
attribute [local go_sem] Oper.semAt_some

def encIR (x : Nat × RuleD) : Array Value := #[.int .i64 (x.1 : Int), ruleV x.2]
/-- A rule in its cells. -/
def RAt (A : World) (g i : Nat) (r : RuleD) : Prop := A.cell? ⟨g, i * 4, none⟩ = some (.bool r.nt) ∧ A.cell? ⟨g, i * 4 + 1, none⟩ = some (.bool r.dr) ∧ A.cell? ⟨g, i * 4 + 2, none⟩ = some (.bool r.fx) ∧ A.cell? ⟨g, i * 4 + 3, none⟩ = some (.string r.pt)
set_option maxRecDepth 100000 in
set_option maxHeartbeats 2000000 in
theorem backR_hands (b : Nat) (a : Option Addr) (cap : Nat) (xs : List RuleD) (hn : xs.length ≤ 1000000) : HandsC Tryz.prog 40 #[.pointer (some ⟨b, 0, none⟩)] encIR (revE xs) (fun C W => Boxed W b 48 (.slice a xs.length cap) ∧ ¬ C b) (fun x A => ∃ g, a = some ⟨g, 0, none⟩ ∧ xs.length ≤ cap ∧ RAt A g x.1 x.2) := by
  intro l J Jx C W hJ hJx hY hX hRd h0
  obtain ⟨hb, hCb⟩ := hRd
  have c0 := hb.cell
  refine callsIn_of_wp Tryz.func40 rfl trivial ?_ rfl
  simp only [Tryz.ntmps40, List.size_toArray, List.length_cons, List.length_nil, Nat.reduceAdd, Nat.reduceSub, Array.replicate_succ, Array.replicate_zero, List.push_toArray, List.append_toArray, List.nil_append, List.cons_append]
  gi_wp2
  clear c0
  gi_loopw [3] (fun kv wr => ∃ (i : Nat) (pre : List (Nat × RuleD)) (C : Nat → Prop), kv = .int .i64 ((i : Int) - 1) ∧ i ≤ xs.length ∧ J pre C wr ∧ Boxed wr b 48 (.slice a xs.length cap) ∧ ¬ C b ∧ pre ++ revE (xs.take i) = revE xs) (fun kv _ => (intOf kv + 1).toNat)
  case atStart => exact ⟨xs.length, [], C, rfl, Nat.le_refl _, h0, hb, hCb, by simp⟩
  case round =>
    obtain ⟨i, pre, C, rfl, hi, hJ1, hb1, hC1, hpre⟩ := hrel
    have c1 := hb1.cell
    cases i with
    | zero =>
      rw [List.take_zero, revE_nil, List.append_nil] at hpre
      rw [hpre] at hJ1
      gi_wp2
      go_end0
      exact ⟨⟨_, rfl⟩, C, .inl hJ1⟩
    | succ i =>
      have hlt : i < xs.length := by omega
      obtain ⟨x, hx⟩ : ∃ x, xs[i] = x := ⟨_, rfl⟩
      rw [revE_take hlt, hx] at hpre
      have hp : pre ++ [(i, x)] <+: revE xs := ⟨_, by rw [List.append_assoc]; exact hpre⟩
      obtain ⟨fn, tmps, assign, body, hy, hR⟩ := hY pre (i, x) C wr hp hJ1
      obtain ⟨g, rfl, hcap, hcell⟩ := hX pre (i, x) C wr hp hJ1
      have hy : (Instr.yield l #[.int .i64 (i : Int), .agg #[.bool x.nt, .bool x.dr, .bool x.fx, .string x.pt]]).run Tryz.prog wr = .ok (.round l fn tmps assign body) wr := hy
      obtain ⟨q0, q1, q2, q3⟩ : RAt wr g i x := hcell
      have HPRE := hide hpre
      clear hpre hp hx
      have e0 : ((i + 1 : Nat) : Int) - 1 = (i : Int) := by omega
      rw [e0]
      clear e0
      have h1 : (0 : Int) ≤ (i : Int) := by omega
      have h2 : (i : Int) < (xs.length : Int) := by omega
      gi_wp2_with (refine ⟨trivial, ?_⟩)
      refine ⟨rfl, hR.mono ?_⟩
      rintro e W3 ⟨C', ht, (⟨rfl, hj⟩ | ⟨rfl, hj⟩)⟩
      · have hC2 := keep_not ht hb1.lt hC1
        have hb2 := boxed_turn ht hb1 hC1
        clear ht
        gi_wp2
        case roundEnd =>
          refine ⟨⟨i, pre ++ [(i, x)], C', by simp, by omega, hj, hb2, hC2, by rw [List.append_assoc]; exact HPRE.out⟩, ?_⟩
          simp [intOf]
      · clear ht
        gi_wp2
        exact bodyPost_ret (results_none rfl _ _ _) rfl ⟨⟨_, rfl⟩, C', .inr hj⟩
end Go.Proofs.YtjbdoeoimodhkaaGreatDoor
/- The law PathJoins: path.Join, the reference's Join, the walk. -/
namespace Go.Proofs.YtjbdoeoimodhkaaGreatDoor
open Go.RowKit

theorem suffix_eq {a : ByteArray} (h : 1 ≤ a.size) : ((a.extract (a.size - 1) a.size).toList == [47]) = endsSlash a := by
  rw [ends_get h, Bool.eq_iff_iff, beq_iff_eq, decide_eq_true_eq, ByteArray.toList_eq, extract_bs, data_bs, drop_get a (a.size - 1) (by omega), show a.size - (a.size - 1) = 1 from by omega]
  simp only [List.take_succ_cons, List.take_zero, List.cons.injEq, and_true]
  constructor
  · intro h; rw [h]; rfl
  · intro h; exact UInt8.toNat_inj.1 (by have : (47 : UInt8).toNat = 47 := rfl; omega)

set_option maxHeartbeats 1000000 in
theorem suffix_any (a : ByteArray) (w : World) (h1 : 1 ≤ a.size) (hs : a.size ≤ 1073741824) :
    Calls Tryz.prog 46 #[.string a, .string ⟨#[47]⟩] w fun e w' => e = .returned (.bool (endsSlash a)) ∧ w' = w := by
  have he := suffix_eq h1
  go_enter Tryz.func46, Tryz.ntmps46
  go_wp2
  go_ret
  exact ⟨rfl, rfl⟩

theorem join_plain {a b : ByteArray} (h : (a.toList.isEmpty || endsSlash a) = true) : a ++ b = joinS a b := by unfold joinS; rw [if_pos h]
theorem join_mid {a b : ByteArray} (h : (a.toList.isEmpty || endsSlash a) = false) : a ++ ⟨#[47]⟩ ++ b = joinS a b := by unfold joinS; rw [h]; rfl

set_option maxHeartbeats 1000000 in
theorem join_any (a b : ByteArray) (w : World) (ha : a.size ≤ 1073741824) (hb : b.size ≤ 1073741824) :
    Calls Tryz.prog 34 #[.string a, .string b] w fun e w' => e = .returned (.string (joinS a b)) ∧ w' = w := by
  cases he : a.toList.isEmpty
  · have h1 := emp_size_no he
    cases hs : endsSlash a
    · have HJ : Hid (a ++ ⟨#[47]⟩ ++ b = joinS a b) := join_mid (by rw [he, hs]; rfl)
      go_enter Tryz.func34, Tryz.ntmps34
      go_wp2_with (go_at_call 46; refine (suffix_any a _ h1 ha).mono ?_; rintro e w' ⟨rfl, rfl⟩)
      go_ret
      exact ⟨ret_str HJ.out, rfl⟩
    · have HJ : Hid (a ++ b = joinS a b) := join_plain (by rw [he, hs]; rfl)
      go_enter Tryz.func34, Tryz.ntmps34
      go_wp2_with (go_at_call 46; refine (suffix_any a _ h1 ha).mono ?_; rintro e w' ⟨rfl, rfl⟩)
      go_ret
      exact ⟨ret_str HJ.out, rfl⟩
  · have HJ : Hid (a ++ b = joinS a b) := join_plain (by rw [he]; rfl)
    go_enter Tryz.func34, Tryz.ntmps34
    go_wp2
    go_ret
    exact ⟨ret_str HJ.out, rfl⟩

end Go.Proofs.YtjbdoeoimodhkaaGreatDoor
/- The directories that a node is in, handed out. -/
namespace Go.Proofs.YtjbdoeoimodhkaaGreatDoor
open Go.RowKit Go.Shelf
open Tre (NodeD NodeRow)
attribute [local go_sem] Oper.semAt_some

theorem TurnC.below {C C' : Nat → Prop} {A A' : World} {D : Nat} (h : TurnC C C' A A') (hC : ∀ k, C k → D ≤ k) (hD : D ≤ A.heap.size) : Below D A A' :=
  ⟨h.os, h.tape, h.output, h.size, fun k hk => h.block k (by omega) (fun q => by have := hC k q; omega)⟩
def encDir (x : Nat × ByteArray) : Array Value := #[.int .i64 (x.1 : Int), .string x.2]
/-- What it reads. -/
structure DirRd (L : List NodeD) (v : Value) (D bk bl k : Nat) (C : Nat → Prop) (W : World) : Prop where
  k : Boxed W bk 3 (.int .i64 (k : Int))
  l : Boxed W bl 25 v
  row : NodeRow D W v L
  cD : ∀ j, C j → D ≤ j
  nk : ¬ C bk
  nl : ¬ C bl
  hD : D ≤ W.heap.size
theorem DirRd.turn {L : List NodeD} {v : Value} {D bk bl k : Nat} {C C' : Nat → Prop} {A A' : World} (h : DirRd L v D bk bl k C A) (ht : TurnC C C' A A') : DirRd L v D bk bl k C' A' :=
  ⟨boxed_turn ht h.k h.nk, boxed_turn ht h.l h.nl, h.row.below (ht.below h.cD h.hD), fun j hj => by
    rcases ht.new j hj with q | q
    · exact h.cD j q
    · exact Nat.le_trans h.hD q, keep_not ht h.k.lt h.nk, keep_not ht h.l.lt h.nl, Nat.le_trans h.hD ht.size⟩
theorem dirs_step {L : List NodeD} {f k a : Nat} {w : ByteArray} {n m : NodeD} (hn : L[k]? = some n) (hu : n.up = (a : Int)) (ha : a < k) (hm : L[a]? = some m) : dirsD L (f + 1) k w = (a, w) :: dirsD L f a (joinS m.name w) := by
  show (match L[k]? with
    | some n => if 0 ≤ n.up ∧ n.up < (k : Int) then (n.up.toNat, w) :: (match L[n.up.toNat]? with
        | some m => dirsD L f n.up.toNat (joinS m.name w)
        | none => []) else []
    | none => []) = _
  rw [hn]
  have e : n.up.toNat = a := by omega
  dsimp only
  rw [if_pos (by omega), e, hm]
theorem dirs_stop {L : List NodeD} {f k : Nat} {w : ByteArray} {n : NodeD} (hn : L[k]? = some n) (hu : n.up = -1) : dirsD L (f + 1) k w = [] := by
  show (match L[k]? with
    | some n => if 0 ≤ n.up ∧ n.up < (k : Int) then (n.up.toNat, w) :: (match L[n.up.toNat]? with
        | some m => dirsD L f n.up.toNat (joinS m.name w)
        | none => []) else []
    | none => []) = _
  rw [hn]
  dsimp only
  rw [if_neg (by omega)]
set_option maxRecDepth 100000 in
set_option maxHeartbeats 4000000 in
theorem dirs_hands (L : List NodeD) (hT : TOK L) (a0 : Option Addr) (cap D bk bl k : Nat) (hk : k < L.length) : HandsC Tryz.prog 33 #[.pointer (some ⟨bk, 0, none⟩), .pointer (some ⟨bl, 0, none⟩)] encDir (dirsK L k) (DirRd L (.slice a0 L.length cap) D bk bl k) (fun _ _ => True) := by
  intro l J Jx C W hJ hJx hY _ hRd h0
  obtain ⟨n, hn⟩ : ∃ n, L[k]? = some n := ⟨_, List.getElem?_eq_getElem hk⟩
  have hlen := hT.len
  have HT := hide hT
  have ck := hRd.k.cell
  have cl := hRd.l.cell
  obtain ⟨g, ka, km, kc, hge, hg, hcap, ⟨n0, n1, n2, _, _, _, _⟩, _⟩ := hRd.row.at hn
  cases hge
  have hkI : (k : Int) < (L.length : Int) := by omega
  refine callsIn_of_wp Tryz.func33 rfl trivial ?_ rfl
  simp only [Tryz.ntmps33, List.size_toArray, List.length_cons, List.length_nil, Nat.reduceAdd, Nat.reduceSub, Array.replicate_succ, Array.replicate_zero, List.push_toArray, List.append_toArray, List.nil_append, List.cons_append]
  gi_wp2
  refine (fun (KEY : (?G : Prop)) => ?main) ?key
  case main =>
    gi_region
    all_goals exact KEY
  case key =>
    have hRd1 : DirRd L (.slice (some ⟨g, 0, none⟩) L.length cap) D bk bl k C W.drew := hRd.turn ⟨rfl, rfl, rfl, Nat.le_refl _, fun _ _ _ => rfl, fun _ h => .inl h⟩
    have h01 : J [] C W.drew := (hJ []).keep _ _ _ h0 ⟨rfl, rfl, rfl, Nat.le_refl _, fun _ _ _ => rfl⟩
    have cl1 := hRd1.l.cell
    have n2' : W.drew.cell? ⟨g, k * 7 + 2, none⟩ = some (.int .i64 n.up) := n2
    have HS := hide (hT.name k n hn)
    clear n0 n1 n2 ck cl hRd h0 hJ hJx
    obtain ⟨W1, hW1⟩ : ∃ W1, W.drew = W1 := ⟨_, rfl⟩
    rw [hW1] at hRd1 h01 cl1 n2' ⊢
    clear hW1
    have HN := hide hn
    clear hn hT
    gi_wp2
    clear cl1 n2'
    gi_loopw [4, 5, 6] (fun av wv uv wr => ∃ (i f : Nat) (way : ByteArray) (m : NodeD) (pre : List (Nat × ByteArray)) (C : Nat → Prop), av = .int .i64 (i : Int) ∧ wv = .string way ∧ uv = .int .i64 m.up ∧ L[i]? = some m ∧ i ≤ k ∧ i < f ∧ way.size + 61 * i ≤ 61 * k + 60 ∧ J pre C wr ∧ DirRd L (.slice (some ⟨g, 0, none⟩) L.length cap) D bk bl k C wr ∧ pre ++ dirsD L f i way = dirsK L k) (fun _ _ uv _ => (intOf uv + 1).toNat)
    case atStart =>
      refine ⟨k, k + 1, n.name, n, [], C, rfl, rfl, rfl, HN.out, Nat.le_refl _, Nat.lt_succ_self _, by have := HS.out; omega, h01, hRd1, ?_⟩
      show dirsD L (k + 1) k n.name = dirsD L (k + 1) k (nameD L k)
      unfold nameD
      rw [HN.out]
    case round =>
      obtain ⟨i, f, way, m, pre, C, rfl, rfl, rfl, hm, hik, hif, hws, hJ1, hR1, hpre⟩ := hrel
      obtain ⟨f, rfl⟩ : ∃ f', f = f' + 1 := ⟨f - 1, by omega⟩
      by_cases hi0 : i = 0
      · subst hi0
        have hup := HT.out.root m hm
        rw [dirs_stop hm hup, List.append_nil] at hpre
        rw [hpre] at hJ1
        rw [hup]
        clear hm hup
        gi_wp2
        go_end0
        exact ⟨⟨_, rfl⟩, C, .inl hJ1⟩
      · obtain ⟨a, ha, hai, x, hx, _⟩ := HT.out.up i m hm (by omega)
        have hxs := HT.out.name a x hx
        rw [dirs_step hm ha hai hx] at hpre
        obtain ⟨fn, tmps, assign, body, hy, hR⟩ := hY pre (a, way) C wr ⟨_, by rw [List.append_assoc]; exact hpre⟩ hJ1
        have hy : (Instr.yield l #[.int .i64 (a : Int), .string way]).run Tryz.prog wr = .ok (.round l fn tmps assign body) wr := hy
        have HPRE := hide hpre
        have HX := hide hx
        rw [ha]
        clear hpre hm hx
        have g1 : (0 : Int) ≤ (a : Int) := by omega
        have g2 : (a : Int) < (i : Int) := by omega
        have g3 : (a : Int) < (L.length : Int) := by omega
        gi_wp2_with (refine ⟨trivial, ?_⟩)
        refine ⟨rfl, hR.mono ?_⟩
        rintro e W3 ⟨C', ht, (⟨rfl, hj⟩ | ⟨rfl, hj⟩)⟩
        · have hR2 := hR1.turn ht
          have cl2 := hR2.l.cell
          obtain ⟨_, _, _, _, hge, _, _, ⟨_, x1, x2, _, _, _, _⟩, _⟩ := hR2.row.at HX.out
          cases hge
          clear ht hy hR hR1 hJ1
          gi_wp2_with fail
          refine ⟨trivial, rfl, CallsIn.mono (callsIn_wide.2 (join_any _ _ _ (by omega) (by omega))) ?_⟩
          rintro e w' ⟨rfl, rfl⟩
          gi_wp2
          case roundEnd =>
            refine ⟨⟨a, f, joinS x.name way, x, pre ++ [(a, way)], C', rfl, rfl, rfl, HX.out, by omega, by omega, by have := joinS_size x.name way; omega, hj, hR2, by rw [List.append_assoc]; exact HPRE.out⟩, ?_⟩
            have : x.up < (a : Int) := by
              by_cases ha0 : a = 0
              · subst ha0
                rw [HT.out.root x HX.out]; omega
              · obtain ⟨b, hb, hba, _⟩ := HT.out.up a x HX.out (by omega)
                omega
            simp [intOf]; omega
        · clear ht
          gi_wp2
          exact bodyPost_ret (results_none rfl _ _ _) rfl ⟨⟨_, rfl⟩, C', .inr hj⟩
end Go.Proofs.YtjbdoeoimodhkaaGreatDoor
/- What is remembered. -/
namespace Go.Proofs.YtjbdoeoimodhkaaGreatDoor
open Go.RowKit Go.Shelf Go.Maps
open Tre (NodeD NodeRow dirD Sn)

def heldRd (v : Value) : Option (DataW Value × List MemPlace) := some (.held v, [])
def kl (k : Nat) : Lit := .int .i64 (k : Int)
theorem Tryz.underlying3k : Tryz.prog.underlying 3 = some (.int .i64) := by kernel_rfl
theorem key3 : Keyed Tryz.prog 3 := int_keyed Tryz.underlying3k
theorem keyOf_kl {k : Nat} (h : k ≤ 1000000) : keyOf Tryz.prog 3 (.int .i64 (k : Int)) = some (kl k) := keyOf_int_mk Tryz.underlying3k (by
  have h1 : IntKind.i64.min = -9223372036854775808 := rfl
  have h2 : IntKind.i64.max = 9223372036854775807 := rfl
  simp [Lit.wf]
  omega)
theorem kl_ne {a b : Nat} (h : a ≠ b) : kl a ≠ kl b := fun e => h (by unfold kl at e; injection e with _ e; omega)
theorem kl_key (k : Nat) : WideAt.IsKeyLit (kl k) := by unfold kl WideAt.IsKeyLit; trivial
/-- A map that remembers: each answer is a good one. -/
def Memo (bm n : Nat) (Ok : Nat → Value → Prop) (W : World) : Prop :=
  ∃ D : DataW Value, W.ownsMap Tryz.prog 3 heldRd bm n D ∧ IsMap D ∧ ∀ k : Nat, has D (kl k) = true → ∃ v, (∀ z, D.atKey (kl k) z = .held v) ∧ Ok k v
theorem Memo.made (w : World) (Ok : Nat → Value → Prop) : Memo w.heap.size 0 Ok (w.alloc (.map #[] 0)) :=
  ⟨.map [], World.ownsMap_made w Tryz.prog 3 heldRd, isMap_empty, fun k h => by cases h⟩
theorem Memo.lt {bm n : Nat} {Ok : Nat → Value → Prop} {W : World} (h : Memo bm n Ok W) : bm < W.heap.size := by
  obtain ⟨D, ⟨es, c, hb, _⟩, _⟩ := h
  exact (Array.getElem?_eq_some_iff.1 hb).1
theorem Memo.keep {bm n : Nat} {Ok Ok' : Nat → Value → Prop} {W W' : World} (h : Memo bm n Ok W) (hb : W'.heap[bm]? = W.heap[bm]?) (hO : ∀ k v, Ok k v → Ok' k v) : Memo bm n Ok' W' := by
  obtain ⟨D, ⟨es, c, h1, h2⟩, hm, hg⟩ := h
  refine ⟨D, ⟨es, c, hb.trans h1, h2⟩, hm, fun k hk => ?_⟩
  obtain ⟨v, a, b⟩ := hg k hk
  exact ⟨v, a, hO k v b⟩
theorem Memo.look {bm n t e : Nat} {Ok : Nat → Value → Prop} {W : World} (h : Memo bm n Ok W) (ht : Tryz.prog.underlying t = some (.map 3 e)) {z : Value} (hz : (zeroValue e).run Tryz.prog W = .ok z W) {k : Nat} (hk : k ≤ 1000000) :
    ((Instr.lookup t (.map (some bm)) (.int .i64 (k : Int)) true).run Tryz.prog W = .ok (.tuple #[z, .bool false]) W) ∨ ∃ v, (Instr.lookup t (.map (some bm)) (.int .i64 (k : Int)) true).run Tryz.prog W = .ok (.tuple #[v, .bool true]) W ∧ Ok k v := by
  obtain ⟨D, hown, hm, hg⟩ := h
  obtain ⟨v, ps, hrun, hv⟩ := hown.look_ok key3 ht hz (zd := .held z) (zp := []) rfl (keyOf_kl hk)
  have hv2 : DataW.held v = D.atKey (kl k) (.held z) := (Prod.mk.injEq _ _ _ _ ▸ (Option.some.inj hv)).1
  cases hh : has D (kl k) with
  | false =>
    rw [hh] at hrun
    rw [atKey_of_not_has hh] at hv2
    injection hv2 with e
    subst e
    exact .inl hrun
  | true =>
    rw [hh] at hrun
    obtain ⟨u, hu, hO⟩ := hg k hh
    rw [hu] at hv2
    injection hv2 with e
    subst e
    exact .inr ⟨_, hrun, hO⟩
theorem Memo.put {bm n t e : Nat} {Ok : Nat → Value → Prop} {W : World} (h : Memo bm n Ok W) (ht : Tryz.prog.underlying t = some (.map 3 e)) (hn : n ≤ 1000000000) {k : Nat} (hk : k ≤ 1000000) {v : Value} (hv : Ok k v) :
    ∃ W', (Instr.mapUpdate t (.map (some bm)) (.int .i64 (k : Int)) v).run Tryz.prog W = .ok () W' ∧ Memo bm (n + 1) Ok W' ∧ W.grownBy W' (some bm) := by
  obtain ⟨D, hown, hm, hg⟩ := h
  obtain ⟨W', hrun, hup, hgr⟩ := World.ownsMap.update (val := v) (d := .held v) (ps := []) hown key3 ht (by unfold maxLen; omega) (keyOf_kl hk) rfl
  refine ⟨W', hrun, ⟨_, hup, hm.put _ _, fun j hj => ?_⟩, hgr⟩
  by_cases e : j = k
  · subst e
    exact ⟨v, fun z => atKey_put_same hm (kl_key _) _ _, hv⟩
  · rw [has_put_other (kl_ne e)] at hj
    obtain ⟨u, h1, h2⟩ := hg j hj
    exact ⟨u, fun z => by rw [atKey_put_other (kl_ne e)]; exact h1 z, h2⟩
/-- A row of rules in memory that none of S's blocks holds. -/
def RuRow (S : Nat → Prop) (W : World) (v : Value) (rs : List RuleD) : Prop := (v = .slice none 0 0 ∧ rs = []) ∨ ∃ g cap, v = .slice (some ⟨g, 0, none⟩) rs.length cap ∧ rs.length ≤ cap ∧ g < W.heap.size ∧ ¬ S g ∧ ∀ (i : Nat) (r : RuleD), rs[i]? = some r → RAt W g i r
theorem RAt.block {W W' : World} {g i : Nat} {r : RuleD} (h : RAt W g i r) (hb : W'.heap[g]? = W.heap[g]?) : RAt W' g i r := by
  have key : ∀ j, W'.cell? ⟨g, j, none⟩ = W.cell? ⟨g, j, none⟩ := fun j => by unfold World.cell?; rw [show W'.heap[(⟨g, j, none⟩ : Addr).block]? = W.heap[g]? from hb]
  exact ⟨(key _).trans h.1, (key _).trans h.2.1, (key _).trans h.2.2.1, (key _).trans h.2.2.2⟩
theorem RuRow.turn {S C C' : Nat → Prop} {W W' : World} {v : Value} {rs : List RuleD} (h : RuRow S W v rs) (ht : TurnC C C' W W') (hC : ∀ b, b < W.heap.size → C b → S b) : RuRow S W' v rs := by
  rcases h with h | ⟨g, cap, e, hc, hg, hS, hx⟩
  · exact .inl h
  · exact .inr ⟨g, cap, e, hc, Nat.lt_of_lt_of_le hg ht.size, hS, fun i r hi => (hx i r hi).block (ht.block g hg (fun q => hS (hC g hg q)))⟩
theorem RuRow.of_owns {S : Nat → Prop} {B : Nat} {W : World} {v : Value} {rs : List RuleD} (h : W.ownsRow B 75 4 v rs.length (rulesL rs)) (hS : ∀ b, S b → b < B) : RuRow S W v rs := by
  rcases h.2 with ⟨e, h0⟩ | ⟨g0, cap0, cur, e, hb, hg, _⟩
  · exact .inl ⟨e, List.eq_nil_of_length_eq_zero h0⟩
  · rcases RRow.of_owns h with h1 | ⟨g, cap, e', hg', hc, _, hx⟩
    · exact .inl h1
    · rw [e] at e'
      injection e' with e1
      injection e1 with e1
      injection e1 with e1
      subst e1
      exact .inr ⟨g0, cap, by rw [e]; congr 1, hc, hg', fun q => by have := hS _ q; omega, hx⟩
theorem RuRow.lessB {S S' : Nat → Prop} {W : World} {v : Value} {rs : List RuleD} (h : RuRow S' W v rs) (hS : ∀ b, b < W.heap.size → S b → S' b) : RuRow S W v rs := by
  rcases h with h | ⟨g, cap, e, hc, hg, hn, hx⟩
  · exact .inl h
  · exact .inr ⟨g, cap, e, hc, hg, fun q => hn (hS g hg q), hx⟩
/-- What one asks with, for a tree. -/
structure Env (S : Nat → Prop) (L : List NodeD) (g cap D bl br ba1 bk1 ba2 bk2 m1 m2 : Nat) (a6 a2 a4 : Addr) (n1 n2 : Nat) (W : World) : Prop where
  row : NodeRow D W (.slice (some ⟨g, 0, none⟩) L.length cap) L
  gw : GW W
  sn : Sn D a6 a2 a4 W
  d10 : 10 ≤ D
  s1 : S m1
  s2 : S m2
  dl : D ≤ bl ∧ D ≤ br ∧ D ≤ ba1 ∧ D ≤ bk1 ∧ D ≤ ba2 ∧ D ≤ bk2 ∧ D ≤ m1 ∧ D ≤ m2
  ne1 : m1 ≠ bl ∧ m1 ≠ br ∧ m1 ≠ ba1 ∧ m1 ≠ bk1 ∧ m1 ≠ ba2 ∧ m1 ≠ bk2 ∧ m1 ≠ m2
  ne2 : m2 ≠ bl ∧ m2 ≠ br ∧ m2 ≠ ba1 ∧ m2 ≠ bk1 ∧ m2 ≠ ba2 ∧ m2 ≠ bk2
  xl : Boxed W bl 25 (.slice (some ⟨g, 0, none⟩) L.length cap)
  xr : Boxed W br 46 (.func (.func 26) #[] #[.pointer (some ⟨ba1, 0, none⟩), .pointer (some ⟨bk1, 0, none⟩)])
  xa1 : Boxed W ba1 58 (.map (some m1))
  xk1 : Boxed W bk1 46 (.func (.func 17) #[] #[.pointer (some ⟨bl, 0, none⟩)])
  xa2 : Boxed W ba2 66 (.map (some m2))
  xk2 : Boxed W bk2 39 (.func (.func 20) #[] #[.pointer (some ⟨bl, 0, none⟩), .pointer (some ⟨br, 0, none⟩)])
  map1 : Memo m1 n1 (fun k v => ∃ a m c, v = .agg #[.slice a m c] ∧ RuRow S W (.slice a m c) (rulesD L k)) W
  map2 : Memo m2 n2 (fun k v => v = .agg #[.bool (saysD L k)]) W
section
variable {S : Nat → Prop} {L : List NodeD} {g cap D bl br ba1 bk1 ba2 bk2 m1 m2 : Nat} {a6 a2 a4 : Addr} {n1 n2 : Nat} {W W' : World}
/-- A turn that writes none of what one asks with. -/
theorem Env.turn {C C' : Nat → Prop} (h : Env S L g cap D bl br ba1 bk1 ba2 bk2 m1 m2 a6 a2 a4 n1 n2 W) (ht : TurnC C C' W W') (hC : ∀ b, b < W.heap.size → C b → False) : Env S L g cap D bl br ba1 bk1 ba2 bk2 m1 m2 a6 a2 a4 n1 n2 W' := by
  have hb : Below W.heap.size W W' := ⟨ht.os, ht.tape, ht.output, ht.size, fun k hk => ht.block k hk (fun q => hC k hk q)⟩
  have hD : D ≤ W.heap.size := by have := h.xl.lt; have := h.dl; omega
  have bx : ∀ {b : Nat} {t : TypeId} {v : Value}, Boxed W b t v → Boxed W' b t v := fun q => (hb.block _ q.lt).trans q
  exact ⟨h.row.below (hb.mono hD), h.gw.below hb, h.sn.below (hb.mono hD) h.d10, h.d10, h.s1, h.s2, h.dl, h.ne1, h.ne2, bx h.xl, bx h.xr, bx h.xa1, bx h.xk1, bx h.xa2, bx h.xk2,
    h.map1.keep (hb.block _ h.map1.lt) (fun _ _ ⟨a, m, c, e, q⟩ => ⟨a, m, c, e, q.turn ht (fun b hlt q => (hC b hlt q).elim)⟩), h.map2.keep (hb.block _ h.map2.lt) (fun _ _ q => q)⟩
theorem Env.below (h : Env S L g cap D bl br ba1 bk1 ba2 bk2 m1 m2 a6 a2 a4 n1 n2 W) (hb : Below W.heap.size W W') : Env S L g cap D bl br ba1 bk1 ba2 bk2 m1 m2 a6 a2 a4 n1 n2 W' :=
  h.turn (TurnC.of_below (C := fun _ => False) hb) (fun _ _ q => q)
/-- The rules have been written down. -/
theorem Env.put1 (h : Env S L g cap D bl br ba1 bk1 ba2 bk2 m1 m2 a6 a2 a4 n1 n2 W) (hg : W.grownBy W' (some m1)) (hm : Memo m1 (n1 + 1) (fun k v => ∃ a m c, v = .agg #[.slice a m c] ∧ RuRow S W (.slice a m c) (rulesD L k)) W') : Env S L g cap D bl br ba1 bk1 ba2 bk2 m1 m2 a6 a2 a4 (n1 + 1) n2 W' := by
  have ht : TurnC (fun k => k = m1) (fun k => k = m1) W W' := ⟨hg.os, hg.tape, hg.output, hg.size, fun k hk hc => hg.block k hk (fun e => hc (Option.some.inj e)), fun _ q => .inl q⟩
  have hD : D ≤ W.heap.size := by have := h.xl.lt; have := h.dl; omega
  have hb : Below D W W' := turn_below ht (fun k q => by have := h.dl; omega) hD
  have h10 : Below 10 W W' := hb.mono h.d10
  have n := h.ne1
  exact ⟨h.row.below hb, h.gw.teller_keep h10, h.sn.below hb h.d10, h.d10, h.s1, h.s2, h.dl, h.ne1, h.ne2, boxed_turn ht h.xl (Ne.symm n.1), boxed_turn ht h.xr (Ne.symm n.2.1), boxed_turn ht h.xa1 (Ne.symm n.2.2.1), boxed_turn ht h.xk1 (Ne.symm n.2.2.2.1), boxed_turn ht h.xa2 (Ne.symm n.2.2.2.2.1), boxed_turn ht h.xk2 (Ne.symm n.2.2.2.2.2.1),
    hm.keep rfl (fun _ _ ⟨a, m, c, e, q⟩ => ⟨a, m, c, e, q.turn ht (fun b _ q => by rw [q]; exact h.s1)⟩), h.map2.keep (ht.block _ h.map2.lt (Ne.symm n.2.2.2.2.2.2)) (fun _ _ q => q)⟩
/-- Other blocks are told to be none of theirs. -/
theorem Env.less {S' : Nat → Prop} (h : Env S L g cap D bl br ba1 bk1 ba2 bk2 m1 m2 a6 a2 a4 n1 n2 W) (h1 : S' m1) (h2 : S' m2) (hS : ∀ b, b < W.heap.size → S' b → S b) : Env S' L g cap D bl br ba1 bk1 ba2 bk2 m1 m2 a6 a2 a4 n1 n2 W :=
  { h with
    s1 := h1
    s2 := h2
    map1 := h.map1.keep rfl (fun _ _ ⟨a, m, c, e, q⟩ => ⟨a, m, c, e, q.lessB hS⟩) }
end
end Go.Proofs.YtjbdoeoimodhkaaGreatDoor
/- The rules, remembered: Asker's first closure, and Answers'. -/
namespace Go.Proofs.YtjbdoeoimodhkaaGreatDoor
open Go.RowKit Go.Shelf Go.Maps
open Tre (NodeD NodeRow dirD Sn)

section
variable {S : Nat → Prop} {L : List NodeD} {g cap D bl br ba1 bk1 ba2 bk2 m1 m2 : Nat} {a6 a2 a4 : Addr} {n1 n2 : Nat} {W : World}
theorem RuRow.less {S S' : Nat → Prop} {W : World} {v : Value} {rs : List RuleD} (h : RuRow S' W v rs) (hS : ∀ b, S b → S' b) : RuRow S W v rs := by
  rcases h with h | ⟨g, cap, e, hc, hg, hn, hx⟩
  · exact .inl h
  · exact .inr ⟨g, cap, e, hc, hg, fun q => hn (hS g q), hx⟩
set_option maxRecDepth 100000 in
set_option maxHeartbeats 2000000 in
theorem ask1_any (h : Env S L g cap D bl br ba1 bk1 ba2 bk2 m1 m2 a6 a2 a4 n1 n2 W) (hT : TOK L) (k : Nat) (n : NodeD) (hk : L[k]? = some n) (hdir : dirD n = true) (S' : Nat → Prop) (hS : ∀ b, S' b → b < W.heap.size) :
    Calls Tryz.prog 17 #[.int .i64 (k : Int), .pointer (some ⟨bl, 0, none⟩)] W fun e w' => ∃ a m c, e = .returned (.slice a m c) ∧ RuRow S' w' (.slice a m c) (rulesD L k) ∧ Below W.heap.size W w' := by
  have hD : D ≤ W.heap.size := by have := h.xl.lt; have := h.dl; omega
  have hR := rulesIn_any a6 a2 a4 D g cap L hT k n hk hdir W h.gw h.sn h.d10 h.row hD
  have c0 := h.xl.cell
  go_enter Tryz.func17, Tryz.ntmps17
  go_wp2_with fail
  refine hR.mono ?_
  rintro e w1 ⟨v, rfl, hown, hb⟩
  obtain ⟨va, vc, rfl⟩ : ∃ a c, v = .slice a (rulesD L k).length c := by
    rcases hown.2 with ⟨e, h0⟩ | ⟨g, c, cur, e, _⟩
    · exact ⟨none, 0, by rw [e, show (rulesD L k).length = 0 from h0]⟩
    · exact ⟨_, _, e⟩
  have HU : Hid (RuRow S' w1 (.slice va (rulesD L k).length vc) (rulesD L k)) := RuRow.of_owns hown hS
  have HB := hide hb
  clear hown hb hR
  go_wp2
  go_ret
  exact ⟨_, _, _, rfl, HU.out, HB.out⟩
theorem Tryz.underlying58' : Tryz.prog.underlying 58 = some (.map 3 60) := by kernel_rfl
theorem Tryz.zero60 (W : World) : (zeroValue 60).run Tryz.prog W = .ok (.agg #[.slice none 0 0]) W := by kernel_rfl
set_option maxRecDepth 100000 in
set_option maxHeartbeats 4000000 in
theorem memo1_any (h : Env S L g cap D bl br ba1 bk1 ba2 bk2 m1 m2 a6 a2 a4 n1 n2 W) (hn : n1 ≤ 1000000000) (hT : TOK L) (k : Nat) (n : NodeD) (hk : L[k]? = some n) (hdir : dirD n = true) :
    Calls Tryz.prog 26 #[.int .i64 (k : Int), .pointer (some ⟨ba1, 0, none⟩), .pointer (some ⟨bk1, 0, none⟩)] W fun e w' => ∃ a m c, e = .returned (.slice a m c) ∧ RuRow (fun b => S b ∧ b < W.heap.size) w' (.slice a m c) (rulesD L k) ∧ Env (fun b => S b ∧ b < W.heap.size) L g cap D bl br ba1 bk1 ba2 bk2 m1 m2 a6 a2 a4 (n1 + 1) n2 w' ∧ TurnC (fun b => b = m1) (fun b => b = m1) W w' := by
  have hkl : k ≤ 1000000 := by have := (List.getElem?_eq_some_iff.1 hk).1; have := hT.len; omega
  have c1 := h.xa1.cell
  have c2 := h.xk1.cell
  rcases h.map1.look Tryz.underlying58' (Tryz.zero60 W) hkl with hl | ⟨v, hl, a, m, c, rfl, hru⟩
  · obtain ⟨n0, hn0⟩ : ∃ n0, W.heap.size = n0 := ⟨_, rfl⟩
    obtain ⟨W1, hW1⟩ : ∃ W1, W.alloc (.cells #[.slice none 0 0] 60) = W1 := ⟨_, rfl⟩
    have hb1 : Below W.heap.size W W1 := by rw [← hW1]; exact (Below.refl _ _).alloc (Nat.le_refl _) _
    have hz1 : W1.heap.size = n0 + 1 := by rw [← hW1, ← hn0]; simp
    have hx1 : Boxed W1 n0 60 (.slice none 0 0) := by rw [← hW1, ← hn0]; exact Boxed.new _ _ _
    have he1 := h.below hb1
    have hm1 := h.map1.lt
    have hm2 := h.map2.lt
    have hA := ask1_any he1 hT k n hk hdir (fun b => (S b ∧ b < W.heap.size) ∨ b = n0) (fun b q => by rcases q with q | rfl <;> omega)
    have c2a : (W.alloc (.cells #[.slice none 0 0] 60)).cell? ⟨bk1, 0, none⟩ = some (.func (.func 17) #[] #[.pointer (some ⟨bl, 0, none⟩)]) := by rw [hW1]; exact he1.xk1.cell
    have HE := hide h
    have HB1 := hide hb1
    have HX1 := hide hx1
    have HW1 := hide hW1
    have HN := hide hn0
    clear h hb1 hx1 he1 hW1 c2 hn0
    go_enter Tryz.func26, Tryz.ntmps26
    go_wp2_with fail
    rw [HW1.out]
    refine hA.mono ?_
    rintro e w2 ⟨a, m, c, rfl, hru, hb2⟩
    have hx2 : Boxed w2 n0 60 (.slice none 0 0) := (hb2.block _ (by omega)).trans HX1.out
    rw [HN.out]
    obtain ⟨w3, hw3⟩ : ∃ w3, w2.setCell ⟨n0, 0, none⟩ (.slice a m c) = w3 := ⟨_, rfl⟩
    have hx3 : Boxed w3 n0 60 (.slice a m c) := by rw [← hw3]; exact hx2.set _
    have t3 : TurnC (fun b => b = n0) (fun b => b = n0) w2 w3 := by rw [← hw3]; exact .setCell _ _ _ rfl
    have hb02 : Below W.heap.size W w2 := HB1.out.trans (hb2.mono HB1.out.size)
    have hb03 : Below W.heap.size W w3 := hb02.trans (turn_below t3 (fun b q => by have := HN.out; omega) hb02.size)
    have he3 := (HE.out.below hb03).less (S' := fun b => S b ∧ b < W.heap.size) ⟨HE.out.s1, hm1⟩ ⟨HE.out.s2, hm2⟩ (fun b _ q => q.1)
    have hru3 : RuRow (fun b => S b ∧ b < W.heap.size) w3 (.slice a m c) (rulesD L k) := (hru.turn t3 (fun b _ q => .inr q)).less (fun b q => .inl q)
    obtain ⟨W4, hup, hmm, hgr⟩ := he3.map1.put Tryz.underlying58' hn hkl (v := .agg #[.slice a m c]) ⟨a, m, c, rfl, hru3⟩
    have hx4 : Boxed W4 n0 60 (.slice a m c) := (hgr.block n0 hx3.lt (fun e => by have := Option.some.inj e; have := HN.out; omega)).trans hx3
    have t4 : TurnC (fun b => b = m1) (fun b => b = m1) w3 W4 := ⟨hgr.os, hgr.tape, hgr.output, hgr.size, fun b hb hc => hgr.block b hb (fun e => hc (Option.some.inj e)), fun _ q => .inl q⟩
    have HF : Hid (RuRow (fun b => S b ∧ b < W.heap.size) W4 (.slice a m c) (rulesD L k) ∧ Env (fun b => S b ∧ b < W.heap.size) L g cap D bl br ba1 bk1 ba2 bk2 m1 m2 a6 a2 a4 (n1 + 1) n2 W4 ∧ TurnC (fun b => b = m1) (fun b => b = m1) W W4) := ⟨hru3.turn t4 (fun b _ q => by rw [q]; exact ⟨HE.out.s1, hm1⟩), he3.put1 hgr hmm, (TurnC.of_below hb03).trans t4⟩
    have d0 := hx2.cell
    have f0 := hx2.frozen
    have d1 := he3.xa1.cell
    have d3 := hx3.cell
    have d4 := hx4.cell
    rw [← hw3] at d1 d3 hup
    clear t3 t4 hb02 hb03 he3 hru3 hmm hgr hx2 hx3 hx4 hru hb2 hw3 HE HB1 HX1 HW1 HN hA
    go_wp2
    go_ret
    exact ⟨a, m, c, rfl, HF.out⟩
  · have HB : Hid (Below W.heap.size W (W.alloc (.cells #[.slice a m c] 60))) := (Below.refl _ _).alloc (Nat.le_refl _) _
    have HR := hide hru
    have HE := hide h
    clear h hru
    go_enter Tryz.func26, Tryz.ntmps26
    go_wp2
    go_ret
    have ht : TurnC (fun b => b = m1) (fun b => b = m1) W (W.alloc (.cells #[.slice a m c] 60)) := .of_below HB.out
    have he := HE.out.below HB.out
    have he := he.less (S' := fun b => S b ∧ b < W.heap.size) ⟨HE.out.s1, HE.out.map1.lt⟩ ⟨HE.out.s2, HE.out.map2.lt⟩ (fun b _ q => q.1)
    exact ⟨a, m, c, rfl, (HR.out.turn (TurnC.of_below (C := fun _ => False) HB.out) (fun _ _ q => q.elim)).less (fun b q => q.1), { he with map1 := by obtain ⟨D, q1, q2⟩ := he.map1; exact ⟨D, q1.mono (Nat.le_succ _), q2⟩ }, ht⟩
end
end Go.Proofs.YtjbdoeoimodhkaaGreatDoor
