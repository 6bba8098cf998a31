/- Merged: AddM, AddN, AddO, Till. -/
import Derived.Test.YtconbmfbokpklaaGreatDoorAddB
import Derived.Deep.RegionHeld
/- One line more: what the builder is behind each step. -/
namespace Go.Proofs.YtconbmfbokpklaaGreatDoor
open Go.RowKit Go.Maps

theorem BoxP.set1 {W : World} {b : Nat} {k : Int} {nm : ByteArray} {up sz tm : Int} {tx : ByteArray} {kv : Value} (h : BoxP W b k nm up sz tm tx kv) (x : ByteArray) : BoxP (W.setCell ⟨b, 1, none⟩ (.string x)) b k x up sz tm tx kv := by
  have hlt := (Array.getElem?_eq_some_iff.1 h).1
  have hk := (Array.getElem?_eq_some_iff.1 h).2
  show (W.heap.modify b _)[b]? = _
  rw [Array.getElem?_eq_getElem (by rw [Array.size_modify]; exact hlt), Array.getElem_modify_self, hk]
  rfl
theorem BoxP.set2 {W : World} {b : Nat} {k : Int} {nm : ByteArray} {up sz tm : Int} {tx : ByteArray} {kv : Value} (h : BoxP W b k nm up sz tm tx kv) (x : Int) : BoxP (W.setCell ⟨b, 2, none⟩ (.int .i64 x)) b k nm x sz tm tx kv := by
  have hlt := (Array.getElem?_eq_some_iff.1 h).1
  have hk := (Array.getElem?_eq_some_iff.1 h).2
  show (W.heap.modify b _)[b]? = _
  rw [Array.getElem?_eq_getElem (by rw [Array.size_modify]; exact hlt), Array.getElem_modify_self, hk]
  rfl
theorem BoxB.set0 {W : World} {c bm br : Nat} {v : Value} (h : BoxB W c v bm br) (u : Value) : BoxB (W.setCell ⟨c, 0, none⟩ u) c u bm br := by
  have hlt := (Array.getElem?_eq_some_iff.1 h).1
  have hk := (Array.getElem?_eq_some_iff.1 h).2
  show (W.heap.modify c _)[c]? = _
  rw [Array.getElem?_eq_getElem (by rw [Array.size_modify]; exact hlt), Array.getElem_modify_self, hk]
  rfl
theorem own_not_boxV {B n c bm br : Nat} {W : World} {t : TypeId} {size : Nat} {xs : List Value} {u v : Value} (h : W.ownsRow B t size u n xs) (hb : BoxB W c v bm br) (ht : t ≠ 54) : u.ownBlock ≠ some c := by
  intro e
  rcases h.2 with ⟨rfl, _⟩ | ⟨g', cap', cur, rfl, _, hg, _⟩
  · cases e
  · simp only [Value.ownBlock, Option.some.injEq] at e
    subst e
    unfold BoxB at hb
    rw [hb] at hg
    cases hg
    exact ht rfl
theorem own_not_map {B n b m : Nat} {W : World} {t : TypeId} {size : Nat} {xs : List Value} {u : Value} {R : Value → Option (DataW Unit × List MemPlace)} {D : DataW Unit} (h : W.ownsRow B t size u n xs) (hb : W.ownsMap Tryz.prog 9 R b m D) : u.ownBlock ≠ some b := by
  intro e
  obtain ⟨es, cl, hb, _⟩ := hb
  rcases h.2 with ⟨rfl, _⟩ | ⟨g', cap', cur, rfl, _, hg, _⟩
  · cases e
  · simp only [Value.ownBlock, Option.some.injEq] at e
    subst e
    rw [hb] at hg
    cases hg
theorem box_not_map {c b bm br m : Nat} {W : World} {v : Value} {R : Value → Option (DataW Unit × List MemPlace)} {D : DataW Unit} (h : BoxB W c v bm br) (hb : W.ownsMap Tryz.prog 9 R b m D) : b ≠ c := by
  intro e
  obtain ⟨es, cl, hb, _⟩ := hb
  subst e
  unfold BoxB at h
  rw [hb] at h
  cases h
theorem set_block_other {W : World} {c i q : Nat} {u : Value} (h : q ≠ c) : (W.setCell ⟨c, i, none⟩ u).heap[q]? = W.heap[q]? := by
  show (W.heap.modify c _)[q]? = _
  rw [Array.getElem?_modify, if_neg (fun e => h e.symm)]
/-- The node, its place told. -/
def ndOf (a : Nat) (k sz tm : Int) (tx nm : ByteArray) : NodeD := newD a (k, sz, tm, tx) nm
/-- Behind 'b.nodes = append(b.nodes, n)'. -/
structure Mid (C : Nat) (W : World) (c : Nat) (v : Value) (bm br : Nat) (l : List (NodeD × Value)) (L : List NodeD) (K : List ByteArray) : Prop where
  box : BoxB W c v bm br
  own : Owned 33 C W v l
  apart : ApartK l
  spots : SpotsAre W bm L K
  rd : W.ownsMap Tryz.prog 9 fnElem br 5 rdD
theorem add_mid {C c bm br g cap g6 cap6 b a : Nat} {W5 w6 : World} {l : List (NodeD × Value)} {K : List ByteArray} {k sz tm : Int} {tx nm : ByteArray} {o : Obj} (h : BInv C W5 c (.slice (some ⟨g, 0, none⟩) l.length cap) bm br l K) (hbx : BoxP W5 b k nm (a : Int) sz tm tx (.slice none 0 0)) (hbg : b ≠ g) (hbc : b ≠ c)
    (hown6 : w6.ownsRow C 33 7 (.slice (some ⟨g6, 0, none⟩) (l.length + 1) cap6) (l.length + 1) (cellsL l ++ [Value.int .u8 k, .string nm, .int .i64 (a : Int), .int .i64 sz, .int .i64 tm, .string tx, .slice none 0 0])) (hg6 : (W5.alloc o).drew.grownBy w6 (some g)) :
    Mid C (w6.setCell ⟨c, 0, none⟩ (.slice (some ⟨g6, 0, none⟩) (l.length + 1) cap6)) c (.slice (some ⟨g6, 0, none⟩) (l.length + 1) cap6) bm br (l ++ [(ndOf a k sz tm tx nm, .slice none 0 0)]) (l.map (·.1)) K ∧
    BoxP (w6.setCell ⟨c, 0, none⟩ (.slice (some ⟨g6, 0, none⟩) (l.length + 1) cap6)) b k nm (a : Int) sz tm tx (.slice none 0 0) := by
  have hal : Below W5.heap.size W5 (W5.alloc o).drew := ((Below.refl _ _).alloc (Nat.le_refl _) o).drew
  have blk : ∀ q, q < W5.heap.size → q ≠ g → w6.heap[q]? = W5.heap[q]? := fun q hq hne => (hg6.block q (Nat.lt_of_lt_of_le hq hal.size) (fun e => hne (Option.some.inj e))).trans (hal.block q hq)
  have hgc : g ≠ c := fun e => own_not_boxV h.own.1 h.box (by decide) (by rw [e]; rfl)
  have hc6 : BoxB w6 c (.slice (some ⟨g, 0, none⟩) l.length cap) bm br := (blk c (Array.getElem?_eq_some_iff.1 h.box).1 (fun e => hgc e.symm)).trans h.box
  obtain ⟨D, hD, hok⟩ := h.spots
  have hgm : g ≠ bm := fun e => own_not_map h.own.1 hD (by rw [e]; rfl)
  have hgr : g ≠ br := fun e => own_not_map h.own.1 h.rd (by rw [e]; rfl)
  have hmc := box_not_map h.box hD
  have hrc := box_not_map h.box h.rd
  have hsnoc : cellsL l ++ [Value.int .u8 k, .string nm, .int .i64 (a : Int), .int .i64 sz, .int .i64 tm, .string tx, .slice none 0 0] = cellsL (l ++ [(ndOf a k sz tm tx nm, .slice none 0 0)]) := by rw [cellsL_snoc]; rfl
  rw [hsnoc] at hown6
  have k6 : ∀ p ∈ l, w6.ownsRow C 3 1 p.2 p.1.kids.length (ints p.1.kids) := fun p hp =>
    own_keep (W := (W5.alloc o).drew) (show World.ownsRow _ _ _ _ _ _ _ from (h.own.2 p hp).alloc o) (show World.ownsRow (W5.alloc o).drew C 33 7 (.slice (some ⟨g, 0, none⟩) l.length cap) l.length (cellsL l) from h.own.1.alloc o) (by decide) hg6
  refine ⟨⟨hc6.set0 _, ⟨?_, ?_⟩, ?_, ?_, ?_⟩, ?_⟩
  · rw [List.length_append]
    exact ownsRow_setCell_other hown6 (a := ⟨c, 0, none⟩) (own_not_boxV hown6 hc6 (by decide)) _
  · intro p hp
    rw [List.mem_append] at hp
    rcases hp with hp | hp
    · exact ownsRow_setCell_other (k6 p hp) (a := ⟨c, 0, none⟩) (own_not_boxV (k6 p hp) hc6 (by decide)) _
    · simp at hp; subst hp
      exact World.ownsRow_nil _ _ _ _
  · intro i j p q hne hi hj
    by_cases hil : i < l.length
    · rw [List.getElem?_append_left hil] at hi
      by_cases hjl : j < l.length
      · rw [List.getElem?_append_left hjl] at hj
        exact h.apart i j p q hne hi hj
      · rw [List.getElem?_append_right (by omega)] at hj
        have : q = (ndOf a k sz tm tx nm, Value.slice none 0 0) := by
          have := List.mem_of_getElem? hj
          simpa using this
        subst this
        cases e : p.2.ownBlock with
        | none => exact .inl rfl
        | some z => exact .inr (by simp [Value.ownBlock])
    · rw [List.getElem?_append_right (by omega)] at hi
      have : p = (ndOf a k sz tm tx nm, Value.slice none 0 0) := by
        have := List.mem_of_getElem? hi
        simpa using this
      subst this
      exact .inl rfl
  · exact ⟨D, map_same hD ((set_block_other hmc).trans (blk bm hD.lt (fun e => hgm e.symm))), hok⟩
  · exact map_same h.rd ((set_block_other hrc).trans (blk br h.rd.lt (fun e => hgr e.symm)))
  · exact (set_block_other hbc).trans ((blk b hbx.lt hbg).trans hbx)
end Go.Proofs.YtconbmfbokpklaaGreatDoor
/- One line more: behind the node's place among its directory's Kids. -/
namespace Go.Proofs.YtconbmfbokpklaaGreatDoor
open Go.RowKit Go.Maps

theorem ints_snoc' (ks : List Nat) (n : Nat) : ints ks ++ [Value.int .i64 (n : Int)] = ints (ks ++ [n]) := by simp [ints]
theorem add_kid {C c bm br g6 cap6 g8 cap8 a n : Nat} {W7 w8 : World} {l : List (NodeD × Value)} {L : List NodeD} {K : List ByteArray} {q : NodeD × Value} {o : Obj} (h : Mid C W7 c (.slice (some ⟨g6, 0, none⟩) l.length cap6) bm br l L K) (hq : l[a]? = some q)
    (hown8 : w8.ownsRow C 3 1 (.slice (some ⟨g8, 0, none⟩) (q.1.kids.length + 1) cap8) (q.1.kids.length + 1) (ints q.1.kids ++ [Value.int .i64 (n : Int)])) (hg8 : (W7.alloc o).drew.grownBy w8 q.2.ownBlock) (hat8 : q.2.ownBlock = some g8 ∨ g8 = W7.heap.size + 1) :
    Mid C (w8.setCell ⟨g6, a * 7 + 6, none⟩ (.slice (some ⟨g8, 0, none⟩) (q.1.kids.length + 1) cap8)) c (.slice (some ⟨g6, 0, none⟩) l.length cap6) bm br
      (l.set a (⟨q.1.kind, q.1.name, q.1.up, q.1.size, q.1.time, q.1.text, q.1.kids ++ [n]⟩, .slice (some ⟨g8, 0, none⟩) (q.1.kids.length + 1) cap8)) L K := by
  have hal : Below W7.heap.size W7 (W7.alloc o).drew := ((Below.refl _ _).alloc (Nat.le_refl _) o).drew
  have blk : ∀ x, x < W7.heap.size → q.2.ownBlock ≠ some x → w8.heap[x]? = W7.heap[x]? := fun x hx hne => (hg8.block x (Nat.lt_of_lt_of_le hx hal.size) (fun e => hne e.symm)).trans (hal.block x hx)
  have hqm := List.mem_of_getElem? hq
  have hlt := (List.getElem?_eq_some_iff.1 hq).1
  have hrow := h.own.2 q hqm
  obtain ⟨D, hD, hok⟩ := h.spots
  have hgc : g6 ≠ c := fun e => own_not_boxV h.own.1 h.box (by decide) (by rw [e]; rfl)
  have hgm : g6 ≠ bm := fun e => own_not_map h.own.1 hD (by rw [e]; rfl)
  have hgr : g6 ≠ br := fun e => own_not_map h.own.1 h.rd (by rw [e]; rfl)
  have k8 : w8.ownsRow C 33 7 (.slice (some ⟨g6, 0, none⟩) l.length cap6) l.length (cellsL l) :=
    own_keep (W := (W7.alloc o).drew) (show World.ownsRow _ _ _ _ _ _ _ from h.own.1.alloc o) (show World.ownsRow (W7.alloc o).drew C 3 1 q.2 q.1.kids.length (ints q.1.kids) from hrow.alloc o) (by decide) hg8
  have other : ∀ {m : Nat} {v : Value} {xs : List Value}, w8.ownsRow C 3 1 v m xs → v.ownBlock ≠ some g6 := fun {m v xs} hv => own_apart k8 hv (by decide) rfl
  have kid8 : ∀ (i : Nat) (p : NodeD × Value), i ≠ a → l[i]? = some p → w8.ownsRow C 3 1 p.2 p.1.kids.length (ints p.1.kids) := by
    intro i p hne hi
    refine (show (W7.alloc o).drew.ownsRow C 3 1 p.2 p.1.kids.length (ints p.1.kids) from (h.own.2 p (List.mem_of_getElem? hi)).alloc o).kept hg8 ?_
    rcases h.apart i a p q hne hi hq with e | e
    · exact .inl e
    · exact .inr e
  rw [ints_snoc'] at hown8
  refine ⟨?_, ⟨?_, ?_⟩, ?_, ?_, ?_⟩
  · exact (set_block_other (fun e => hgc e.symm)).trans ((blk c (Array.getElem?_eq_some_iff.1 h.box).1 (own_not_boxV hrow h.box (by decide))).trans h.box)
  · rw [List.length_set, ← cellsL_set2 (.slice (some ⟨g8, 0, none⟩) (q.1.kids.length + 1) cap8) l a q.1 ⟨q.1.kind, q.1.name, q.1.up, q.1.size, q.1.time, q.1.text, q.1.kids ++ [n]⟩ q.2 hq rfl]
    exact own_set k8 _
  · intro p hp
    obtain ⟨i, hi⟩ := List.mem_iff_getElem?.1 hp
    by_cases hia : a = i
    · subst hia
      rw [List.getElem?_set_self hlt] at hi
      cases hi
      refine ownsRow_setCell_other ?_ (a := ⟨g6, a * 7 + 6, none⟩) (other hown8) _
      rw [List.length_append]
      exact hown8
    · rw [List.getElem?_set_ne hia] at hi
      have := kid8 i p (fun e => hia e.symm) hi
      exact ownsRow_setCell_other this (a := ⟨g6, a * 7 + 6, none⟩) (other this) _
  · have new : ∀ (i : Nat) (p : NodeD × Value), i ≠ a → l[i]? = some p → p.2.ownBlock = none ∨ p.2.ownBlock ≠ some g8 := by
      intro i p hne hi
      rcases hat8 with e | e
      · rw [← e]; exact h.apart i a p q hne hi hq
      · cases e2 : p.2.ownBlock with
        | none => exact .inl rfl
        | some z =>
          refine .inr fun e3 => ?_
          have := ((h.own.2 p (List.mem_of_getElem? hi)).lt z e2).2
          have := Option.some.inj e3
          omega
    intro i j p r hne hi hj
    by_cases hia : a = i
    · subst hia
      rw [List.getElem?_set_self hlt] at hi
      rw [List.getElem?_set_ne hne] at hj
      cases hi
      rcases new j r (fun e => hne e.symm) hj with e | e
      · exact .inr (by rw [e]; simp [Value.ownBlock])
      · exact .inr (fun e2 => e (by rw [← e2]; rfl))
    · rw [List.getElem?_set_ne hia] at hi
      by_cases hja : a = j
      · subst hja
        rw [List.getElem?_set_self hlt] at hj
        cases hj
        exact new i p (fun e => hia e.symm) hi
      · rw [List.getElem?_set_ne hja] at hj
        exact h.apart i j p r hne hi hj
  · exact ⟨D, map_same hD ((set_block_other (fun e => hgm e.symm)).trans (blk bm hD.lt (own_not_map hrow hD))), hok⟩
  · exact map_same h.rd ((set_block_other (fun e => hgr e.symm)).trans (blk br h.rd.lt (own_not_map hrow h.rd)))
end Go.Proofs.YtconbmfbokpklaaGreatDoor
/- One line more: behind the map's update. -/
namespace Go.Proofs.YtconbmfbokpklaaGreatDoor
open Go.RowKit Go.Maps

theorem kept_map {B n b m : Nat} {W W' : World} {t : TypeId} {size : Nat} {xs : List Value} {u : Value} {R : Value → Option (DataW Unit × List MemPlace)} {D : DataW Unit} (h : W.ownsRow B t size u n xs) (hb : W.ownsMap Tryz.prog 9 R b m D) (hg : W.grownBy W' (some b)) : W'.ownsRow B t size u n xs :=
  h.kept hg (.inr (own_not_map h hb))
theorem add_fin {C c bm br a m : Nat} {W9 w11 : World} {v kv : Value} {l : List (NodeD × Value)} {K : List ByteArray} {way : ByteArray} {nd : NodeD} {q : NodeD × Value} {D : DataW Unit}
    (hM : Mid C W9 c v bm br ((l ++ [(nd, Value.slice none 0 0)]).set a (⟨q.1.kind, q.1.name, q.1.up, q.1.size, q.1.time, q.1.text, q.1.kids ++ [l.length]⟩, kv)) (l.map (·.1)) K)
    (hq : l[a]? = some q) (hD : W9.ownsMap Tryz.prog 9 spotElem bm m D) (hok : ∀ x : ByteArray, SpotOk D (l.map (·.1)) x.data.toList (look K x)) (hup : w11.ownsMap Tryz.prog 9 spotElem bm (K.length + 1) (D.put (lt way.data.toList) (spD l.length (dirD nd)))) (hg : W9.grownBy w11 (some bm))
    (hne : bm ≠ br) (hlw : look K way = none) (hKl : K.length = l.length) (hc : C ≤ c) (hm : C ≤ bm) (hr : C ≤ br) :
    BInv C w11 c v bm br ((l ++ [(nd, Value.slice none 0 0)]).set a (⟨q.1.kind, q.1.name, q.1.up, q.1.size, q.1.time, q.1.text, q.1.kids ++ [l.length]⟩, kv)) (K ++ [way]) ∧
    ((l ++ [(nd, Value.slice none 0 0)]).set a (⟨q.1.kind, q.1.name, q.1.up, q.1.size, q.1.time, q.1.text, q.1.kids ++ [l.length]⟩, kv)).map (fun x : NodeD × Value => x.1) = addD (l.map (·.1)) a q.1 nd (q.1.kids ++ [(l.map (·.1)).length]) := by
  have hlt := (List.getElem?_eq_some_iff.1 hq).1
  have hLl : (l.map (·.1)).length = l.length := List.length_map _
  have hmap : ((l ++ [(nd, Value.slice none 0 0)]).set a (⟨q.1.kind, q.1.name, q.1.up, q.1.size, q.1.time, q.1.text, q.1.kids ++ [l.length]⟩, kv)).map (fun x : NodeD × Value => x.1) = addD (l.map (·.1)) a q.1 nd (q.1.kids ++ [(l.map (·.1)).length]) := by
    unfold addD
    rw [List.map_set, List.map_append, hLl]; rfl
  have hmc := box_not_map hM.box hD
  refine ⟨⟨?_, ⟨kept_map hM.own.1 hD hg, fun p hp => kept_map (hM.own.2 p hp) hD hg⟩, hM.apart, ?_, ?_, hc, hm, hr⟩, hmap⟩
  · exact (hg.block c (Array.getElem?_eq_some_iff.1 hM.box).1 (fun e => hmc (Option.some.inj e).symm)).trans hM.box
  · rw [hmap]
    refine spots_add (W := W9) (L := l.map (·.1)) (n := nd) hlw (by rw [hKl, hLl]) hok hD.isMap (by rw [hLl]; exact hup) ?_ ?_ rfl
    · intro i e hi
      have hil := (List.getElem?_eq_some_iff.1 hi).1
      unfold addD
      by_cases hia : a = i
      · subst hia
        rw [List.getElem?_set_self (by rw [List.length_append]; omega)]
        rw [List.getElem?_map, hq] at hi
        cases hi
        exact ⟨_, rfl, rfl⟩
      · rw [List.getElem?_set_ne hia, List.getElem?_append_left hil]
        exact ⟨e, hi, rfl⟩
    · unfold addD
      rw [List.getElem?_set_ne (by omega), List.getElem?_append_right (Nat.le_refl _)]
      simp
  · exact map_same hM.rd (hg.block br hM.rd.lt (fun e => hne (Option.some.inj e).symm))
/-- The two maps are two. -/
theorem maps_apart {W : World} {bm br n : Nat} {D : DataW Unit} (h : W.ownsMap Tryz.prog 9 spotElem bm n D) (h2 : W.ownsMap Tryz.prog 9 fnElem br 5 rdD) : bm ≠ br := by
  intro e
  subst e
  obtain ⟨es, cl, hb, F, _, _⟩ := h
  obtain ⟨es2, cl2, hb2, F2, _, hD2⟩ := h2
  rw [hb] at hb2
  cases hb2
  have hne : es.toList ≠ [] := by
    intro e0
    rw [e0] at hD2
    have h1 := (rd_at [100] (.lit (.int .i64 0))).1
    rw [hD2] at h1
    exact absurd h1 (by decide)
  obtain ⟨x, hx⟩ := List.exists_mem_of_ne_nil _ hne
  obtain ⟨y, hy⟩ := F.reads x hx
  obtain ⟨y2, hy2⟩ := F2.reads x hx
  unfold Go.WideElems.rd at hy hy2
  simp only [Option.bind_eq_some_iff, Option.map_eq_some_iff] at hy hy2
  obtain ⟨_, _, d, hd, _⟩ := hy
  obtain ⟨_, _, d2, hd2, _⟩ := hy2
  unfold spotElem at hd
  split at hd
  · rename_i e
    rw [e] at hd2
    cases hd2
  · cases hd
end Go.Proofs.YtconbmfbokpklaaGreatDoor
/- A drawn region, its loads taken first while what they read stands: a condition on the world that is asked only till the last of them has come up. -/
namespace Go.Proofs.YtconbmfbokpklaaGreatDoor
open Go

section
variable {P : Program} {md : Region.Mode} {ops : Array Oper} {Q : Exit → Act → World → Prop} {S : World → Prop} {need : Nat → Bool}

/-- Whatever order is picked from here on; behind an operation that is needed for it S holds. -/
def Till (P : Program) (md : Region.Mode) (ops : Array Oper) (Q : Exit → Act → World → Prop) (S : World → Prop) (need : Nat → Bool) : Nat → Array Bool → Act → World → Prop
  | 0, listed, a, w => Region.ready md ops listed = [] ∧ Q .normal a w
  | fuel + 1, listed, a, w => (Region.ready md ops listed = [] → Q .normal a w) ∧ ∀ i ∈ Region.ready md ops listed, wpOp P ops Q i (fun a' w' => (need i = true → S w') ∧ Till P md ops Q S need fuel (listed.setIfInBounds i true) a' w') a w
theorem Till.any : ∀ (fuel : Nat) (listed : Array Bool) (a : Act) (w : World), Till P md ops Q S need fuel listed a w → wpAny P md ops Q fuel listed a w
  | 0, _, _, _, h => h
  | fuel + 1, _, _, _, h => ⟨h.1, fun i hi => wpOp_mono (fun a' w' k => Till.any fuel _ a' w' k.2) (h.2 i hi)⟩
/-- A load may be taken first, if S holds behind all that does not wait for it. -/
theorem Till.first {i : Nat} {oi : Oper} {v : Value} (hi : ops[i]? = some oi) (hsel : ∀ (j : Nat) (o : Oper) cs b, ops[j]? = some o → o.op ≠ .select cs b) (hQ : ∀ c a w, Q (.panic c) (a.put oi.dst v) w → Q (.panic c) a w) (hop : ∀ j oj, ops[j]? = some oj → j ≠ i → (∀ e ∈ oj.after, Region.binds md e = true → e.on ≠ i) → need j = true) (n : Nat) :
    ∀ (listed : Array Bool) (a : Act) (w : World), (∀ j oj, ops[j]? = some oj → j ≠ i → listed.getD j true = false → (∀ e ∈ oj.after, Region.binds md e = true → e.on ≠ i) → oi.apart ops oj = true) → i ∈ Region.ready md ops listed → YieldsIf P ops S oi v a → S w →
      Till P md ops Q S need n (listed.setIfInBounds i true) (a.put oi.dst v) w → Till P md ops Q S need (n + 1) listed a w := by
  induction n with
  | zero =>
    intro listed a w _ hr hy hS H
    refine ⟨fun h => absurd hr (by rw [h]; simp), fun j hj => ?_⟩
    by_cases e : j = i
    · subst e; exact hy.wpOp hi hS ⟨fun _ => hS, H⟩
    · exact absurd (ready_mono hj e) (by rw [H.1]; simp)
  | succ n ih =>
    intro listed a w hf hr hy hS H
    refine ⟨fun h => absurd hr (by rw [h]; simp), fun j hj => ?_⟩
    by_cases e : j = i
    · subst e; exact hy.wpOp hi hS ⟨fun _ => hS, H⟩
    · obtain ⟨hun, oj, hoj, hall⟩ := mem_ready.1 hj
      have hiun : listed.getD i true = false := (mem_ready.1 hr).1
      have hno : ∀ x ∈ oj.after, Region.binds md x = true → x.on ≠ i := by
        intro x hx hb ex
        have h1 := hall x hx hb
        rw [ex] at h1
        by_cases hs : i < listed.size
        · simp [hs] at hiun h1; rw [hiun] at h1; cases h1
        · simp [Array.getElem?_eq_none (Nat.le_of_not_lt hs)] at h1
      have hput := wpOp_putIf hoj (hf j oj hoj e hun hno) (fun cs b => hsel i oi cs b hi) (fun cs b => hsel j oj cs b hoj) hQ hy (H.2 j (ready_mono hj e))
      refine wpOp_mono ?_ hput
      rintro a' w' ⟨hy', hS', H'⟩
      have hSw : S w' := hS' (hop j oj hoj e hno)
      · refine ⟨fun _ => hSw, ih _ a' w' ?_ (ready_mono hr (Ne.symm e)) hy' hSw ?_⟩
        · intro k ok hk hki hkun hk2
          refine hf k ok hk hki ?_ hk2
          by_cases hjk : j = k
          · subst hjk; exact hun
          · rw [getD_set_ne true hjk] at hkun; exact hkun
        · rw [Array.setIfInBounds_comm _ _ e]; exact H'
/-- All that does not wait for i is needed. -/
def needB (md : Region.Mode) (ops : Array Oper) (need : Nat → Bool) (i : Nat) : Bool := (List.range ops.size).all fun j => j == i || need j || (match ops[j]? with
  | some o => o.after.any fun e => Region.binds md e && e.on == i
  | none => true)
theorem needB_spec {i : Nat} (h : needB md ops need i = true) : ∀ j oj, ops[j]? = some oj → j ≠ i → (∀ e ∈ oj.after, Region.binds md e = true → e.on ≠ i) → need j = true := by
  intro j oj hj hne hno
  unfold needB at h
  rw [List.all_eq_true] at h
  have h1 := h j (List.mem_range.2 (Array.getElem?_eq_some_iff.1 hj).1)
  rw [hj] at h1
  simp only [Bool.or_eq_true, beq_iff_eq] at h1
  rcases h1 with (h1 | h1) | h1
  · exact absurd h1 hne
  · exact h1
  · obtain ⟨e, he, hb⟩ := Array.any_eq_true'.1 h1
    simp only [Bool.and_eq_true, beq_iff_eq] at hb
    exact absurd hb.2 (hno e he hb.1)
theorem Till.take {i : Nat} {oi : Oper} {v : Value} {fuel : Nat} {listed : Array Bool} {a : Act} {w : World} (hi : ops[i]? = some oi) (hs : Region.noSelect ops = true) (hf : Region.free md ops listed i = true) (hr : (Region.ready md ops listed).contains i = true) (hn : needB md ops need i = true)
    (hQ : ∀ c a w, Q (.panic c) (a.put oi.dst v) w → Q (.panic c) a w) (hy : YieldsIf P ops S oi v a) (hS : S w) (h : Till P md ops Q S need fuel (listed.setIfInBounds i true) (a.put oi.dst v) w) : Till P md ops Q S need (fuel + 1) listed a w :=
  Till.first hi (Region.noSelect_spec hs) hQ (needB_spec hn) fuel listed a w (Region.free_spec hi hf) (by simpa using hr) hy hS h
/-- One alone may come up. -/
theorem Till.one {i : Nat} {o : Oper} {fuel : Nat} {listed : Array Bool} {a : Act} {w : World} (hr : Region.ready md ops listed = [i]) (ho : ops[i]? = some o)
    (h : ∀ K' : Act → World → Prop, Shut (∀ a w, (need i = true → S w) → Till P md ops Q S need fuel (listed.setIfInBounds i true) a w → K' a w) → if Region.wanted o (yielded ops a.tmps) = true then Oper.wp P o a w K' Q else K' (a.put o.dst undef) w) : Till P md ops Q S need (fuel + 1) listed a w := by
  refine ⟨fun h0 => (by rw [hr] at h0; cases h0), fun j hj => ?_⟩
  rw [hr] at hj
  cases List.mem_singleton.1 hj
  exact wpOp_step ho (fun K' hK => h K' (fun a w hS hW => hK a w ⟨hS, hW⟩))
theorem Till.done {listed : Array Bool} {a : Act} {w : World} (hr : Region.ready md ops listed = []) (h : Q .normal a w) : ∀ fuel, Till P md ops Q S need fuel listed a w
  | 0 => ⟨hr, h⟩
  | _ + 1 => ⟨fun _ => h, by rw [hr]; simp⟩
/-- The beginning. -/
theorem Till.region {id : Nat} {a : Act} {w : World} (hm : P.follows .mixedOrders = true) (h : Till P .any ops Q S need ops.size (Array.replicate ops.size false) a w.drew) : (Code.region id ops true).wp P Q a w := wp_region_any hm (Till.any _ _ _ _ h)
end
end Go.Proofs.YtconbmfbokpklaaGreatDoor
