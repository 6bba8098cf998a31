/- Walk: the walker's state; what is written behind Out. -/
import Derived.Test.YtfemboojdablhaaGreatDoorWkC
import Derived.Test.YtfemboojdablhaaGreatDoorTGNodes
import Derived.Test.YtfemboojdablhaaGreatDoorWkB
namespace Go.Proofs.YtfemboojdablhaaGreatDoor.Tre
open Go.RowKit Go.Shelf

/-- 'append(row, text...)': where the new row lies. -/
theorem append_str_at {P : Program} (w : World) (base : Nat) (t u ty e : TypeId) (i : TypeInfo) (ht : P.underlying t = some (.slice e)) (hu : P.underlying u = some .string) (hi : P.info? e = some i) (hz : i.zero = some (.int .u8 0)) (hsize : i.size = 1) (hby : i.bytes = 1)
    (v : Value) (n : Nat) (xs : List Value) (hown : w.ownsRow base e 1 v n xs) (s : ByteArray) (h63 : n + s.size ≤ maxLen) (hbytes : n + s.size ≤ 140737488355328) (hbase : base ≤ w.heap.size) :
    ∃ v' w', (Builtin.append_ #[t, u] ty #[v, .string s]).run P w = .ok v' w' ∧ w'.ownsRow base e 1 v' (n + s.size) (xs ++ Lib.strCells s) ∧ w.grownBy w' v.ownBlock ∧ (v'.ownBlock = v.ownBlock ∨ v'.ownBlock = some w.heap.size) ∧ (v' = .slice none 0 0 ↔ v = .slice none 0 0 ∧ s.size = 0) := by
  obtain ⟨v', w', hr, h2, h3, h4⟩ := Lib.run_append_own_string (P := P) w base t u ty e i ht hu hi hz hsize hby v n xs hown s h63 hbytes hbase
  refine ⟨v', w', hr, h2, h3, ?_, h4⟩
  have hsmall : n + s.size ≤ 9223372036854775807 := by simp only [maxLen] at h63; omega
  have hxl : xs.length = n := by simpa using hown.1
  rcases hown.2 with ⟨rfl, rfl⟩ | ⟨g, cap, cur, rfl, hbg, hg, hnc, hcm, hcs, htake⟩
  · by_cases hm : s.size = 0
    · rw [h4.2 ⟨rfl, hm⟩]; exact .inl rfl
    · have hr2 := run_append_nil_string (P := P) w t u ty e i (.int .u8 0) ht hu hi hz s (by omega) (by omega) (by rw [hby]; omega)
      rw [hr] at hr2
      cases hr2
      exact .inr rfl
  · by_cases hroom : n + s.size ≤ cap
    · have hr2 := Lib.run_append_room_string (P := P) w t u ty e i ht hu hi hsize g n cap cur hg s hroom (by omega)
      rw [hr] at hr2
      cases hr2
      exact .inl rfl
    · have hr2 := Lib.run_append_grow_string (P := P) w t u ty e i (.int .u8 0) ht hu hi hz ⟨g, 0, none⟩ n cap xs (by rw [hsize]; simpa using hxl) (hown.cells (g := g) rfl) s (by omega) (by omega) (by rw [hby]; exact growslice_fits (by omega) (by omega))
      rw [hr] at hr2
      cases hr2
      exact .inr rfl
theorem wpList_append_str_at {P : Program} {w : World} {ops : Array Oper} {rest : List Oper} {o : Oper} {a : Act} {Q : Exit → Act → World → Prop} (hgd : o.guard = none) (sl x : Operand) (t u : TypeId)
    (ho : o.op = .call { callee := .builtin .append, args := #[sl, x], argTypes := #[t, u] })
    (base : Nat) (e : TypeId) (i : TypeInfo) (ht : P.underlying t = some (.slice e)) (hu : P.underlying u = some .string) (hi : P.info? e = some i) (hz : i.zero = some (.int .u8 0))
    (hsize : i.size = 1) (hby : i.bytes = 1)
    (v : Value) (n : Nat) (xs : List Value) (hs : a.eval sl = v) (hown : w.ownsRow base e 1 v n xs) (s : ByteArray) (hx : a.eval x = .string s)
    (h63 : n + s.size ≤ maxLen) (hbytes : n + s.size ≤ 140737488355328) (hbase : base ≤ w.heap.size)
    (h : ∀ v' w', w'.ownsRow base e 1 v' (n + s.size) (xs ++ Lib.strCells s) → w.grownBy w' v.ownBlock → (v'.ownBlock = v.ownBlock ∨ v'.ownBlock = some w.heap.size) → wpList P ops Q rest (a.put o.dst v') w') : wpList P ops Q (o :: rest) a w := by
  refine wpList_plain hgd fun K hK => ?_
  obtain ⟨v', w', hr, h2, h3, h4, _⟩ := append_str_at (P := P) w base t u o.type e i ht hu hi hz hsize hby v n xs hown s h63 hbytes hbase
  unfold Oper.wp execOp
  simp only [ho, resolve, invoke, builtin, Sem.run_bind, Sem.run_pure, Result.andThen_ok, List.map_toArray, List.map_cons, List.map_nil, hs, hx, hr]
  exact hK _ _ (h v' w' h2 h3 h4)

/-- Where the walker's things lie, and how it walks. -/
structure Cf where
  b : Nat
  ga : Nat
  gm : Nat
  g : Nat
  cap : Nat
  kb : Nat
  B : Nat
  deep : Bool
  mn : Int
  mx : Int
  ms : Int
  iv : Value
/-- What the walk may write. -/
def DS (c : Cf) (bv tv : Value) (k : Nat) : Prop := k = c.b ∨ k = c.ga ∨ bv.ownBlock = some k ∨ tv.ownBlock = some k
abbrev WkC (W : World) (c : Cf) (n : Nat) (gone : Nat) (pv bv tv : Value) : Prop :=
  WkO W c.b (.slice (some ⟨c.g, 0, none⟩) n c.cap) c.deep c.mn c.mx c.ms (.func (.func 69) #[] #[.pointer (some ⟨c.kb, 0, none⟩)]) c.iv (.slice (some ⟨c.gm, 0, none⟩) n n) (.slice (some ⟨c.ga, 0, none⟩) n n) (gone : Int) pv bv tv
def meaL (n : Nat) : List Value := (List.range n).map (fun (i : Nat) => Value.int .i64 (i : Int))
structure WSt (L : List NodeD) (c : Cf) (gone : Nat) (out : List UInt8) (ab : List Bool) (pv bv tv : Value) (nn : Nat) (W : World) : Prop where
  blk : WkC W c L.length gone pv bv tv
  pvs : pv = .pointer none ∨ pv = .pointer (some ⟨c.b, 11, none⟩)
  buf : W.ownsRow c.B 5 1 bv out.length (Lib.byteCells out)
  emp : out = [] → bv = .slice none 0 0
  nts : ∃ ts, W.ownsRow c.B 9 1 tv nn ts
  mea : W.heap[c.gm]? = some (.cells (meaL L.length).toArray 3 (0, 0))
  abv : W.heap[c.ga]? = some (.cells (ab.map Value.bool).toArray 4 (0, 0))
  abl : ab.length = L.length
  row : NodeRow c.B W (.slice (some ⟨c.g, 0, none⟩) L.length c.cap) L
  bB : c.B ≤ c.b
  gB : c.B ≤ c.ga

theorem ty_ne {W : World} {k : Nat} {a a' : Array Value} {t t' : TypeId} {y y' : Nat × Nat} (h : W.heap[k]? = some (.cells a t y)) (h' : W.heap[k]? = some (.cells a' t' y')) (hne : t ≠ t') : False := by
  rw [h, Option.some.injEq, Obj.cells.injEq] at h'
  exact hne h'.2.1
theorem own_ne {W : World} {B n k : Nat} {e t : TypeId} {size : Nat} {v : Value} {xs : List Value} {a : Array Value} {y : Nat × Nat} (h : W.ownsRow B e size v n xs) (hk : W.heap[k]? = some (.cells a t y)) (hne : e ≠ t) : v.ownBlock ≠ some k := by
  intro hv
  rcases h.2 with ⟨rfl, _⟩ | ⟨g, cap, cur, rfl, _, hg, _⟩
  · cases hv
  · simp only [Value.ownBlock, Option.some.injEq] at hv
    subst hv
    exact ty_ne hg hk hne
theorem own_two {W : World} {B n n' : Nat} {e e' : TypeId} {size size' : Nat} {v v' : Value} {xs xs' : List Value} (h : W.ownsRow B e size v n xs) (h' : W.ownsRow B e' size' v' n' xs') (hne : e ≠ e') {k : Nat} (hk : v.ownBlock = some k) : v'.ownBlock ≠ some k := by
  intro hv
  rcases h.2 with ⟨rfl, _⟩ | ⟨g, cap, cur, rfl, _, hg, _⟩
  · cases hk
  · simp only [Value.ownBlock, Option.some.injEq] at hk
    subst hk
    exact own_ne h' hg (fun e => hne e.symm) hv
theorem wown_keep {W W' : World} {B n : Nat} {e : TypeId} {size : Nat} {v : Value} {xs : List Value} (h : W.ownsRow B e size v n xs) (hk : ∀ k, v.ownBlock = some k → W'.heap[k]? = W.heap[k]?) : W'.ownsRow B e size v n xs := by
  refine ⟨h.1, ?_⟩
  rcases h.2 with ⟨rfl, h0⟩ | ⟨g, cap, cur, rfl, h1, hg, hr⟩
  · exact .inl ⟨rfl, h0⟩
  · exact .inr ⟨g, cap, cur, rfl, h1, (hk g rfl).trans hg, hr⟩
theorem wset_other {W : World} {b i k : Nat} {v : Value} (h : k ≠ b) : (W.setCell ⟨b, i, none⟩ v).heap[k]? = W.heap[k]? := Below.heap_setCell _ _ _ k (fun e => h e)
theorem wset_block {W : World} {b i : Nat} {v : Value} {a : Array Value} {t : TypeId} {y : Nat × Nat} (h : W.heap[b]? = some (.cells a t y)) : (W.setCell ⟨b, i, none⟩ v).heap[b]? = some (.cells (a.setIfInBounds i v) t y) := by
  obtain ⟨hl, hk⟩ := Array.getElem?_eq_some_iff.1 h
  show (W.heap.modify b _)[b]? = _
  rw [Array.getElem?_eq_getElem (by rw [Array.size_modify]; exact hl), Array.getElem_modify_self, hk]
  rfl
variable {L : List NodeD} {c : Cf} {gone nn : Nat} {out : List UInt8} {ab : List Bool} {pv bv tv : Value} {W W' : World}
theorem WSt.lts (h : WSt L c gone out ab pv bv tv nn W) : ∀ k, DS c bv tv k → c.B ≤ k ∧ k < W.heap.size := by
  rintro k (rfl | rfl | hk | hk)
  · exact ⟨h.bB, h.blk.lt⟩
  · exact ⟨h.gB, (Array.getElem?_eq_some_iff.1 h.abv).1⟩
  · exact h.buf.lt k hk
  · obtain ⟨ts, ht⟩ := h.nts
    exact ht.lt k hk
theorem WSt.Bl (h : WSt L c gone out ab pv bv tv nn W) : c.B ≤ W.heap.size := Nat.le_trans h.bB (Nat.le_of_lt h.blk.lt)
theorem WSt.ngm (h : WSt L c gone out ab pv bv tv nn W) : ¬ DS c bv tv c.gm := by
  rintro (e | e | hk | hk)
  · exact ty_ne (e ▸ h.mea) h.blk (by decide)
  · exact ty_ne (e ▸ h.mea) h.abv (by decide)
  · exact own_ne h.buf h.mea (by decide) hk
  · obtain ⟨ts, ht⟩ := h.nts
    exact own_ne ht h.mea (by decide) hk
/-- All that is the walk's stays where nothing of it is written. -/
theorem WSt.below (h : WSt L c gone out ab pv bv tv nn W) (hb : Below W.heap.size W W') : WSt L c gone out ab pv bv tv nn W' := by
  have hlt := h.lts
  have ltb : ∀ k, k < W.heap.size → W'.heap[k]? = W.heap[k]? := hb.block
  obtain ⟨ts, ht⟩ := h.nts
  refine ⟨(ltb _ h.blk.lt).trans h.blk, h.pvs, wown_keep h.buf (fun k hk => ltb k (h.buf.lt k hk).2), h.emp, ⟨ts, wown_keep ht (fun k hk => ltb k (ht.lt k hk).2)⟩, (ltb _ (Array.getElem?_eq_some_iff.1 h.mea).1).trans h.mea, (ltb _ (Array.getElem?_eq_some_iff.1 h.abv).1).trans h.abv, h.abl, h.row.below (hb.mono h.Bl), h.bB, h.gB⟩
theorem turn_low {B : Nat} {D D' : Nat → Prop} (h : TurnC D D' W W') (hB : ∀ k, D k → B ≤ k) (hs : B ≤ W.heap.size) : Below B W W' :=
  ⟨h.os, h.tape, h.output, h.size, fun k hk => h.block k (by omega) (fun q => by have := hB k q; omega)⟩
/-- A cell of the walker's own block is written. -/
theorem WSt.set (h : WSt L c gone out ab pv bv tv nn W) {i : Nat} {v : Value} {gone' : Nat} {pv' bv' tv' : Value} (hs : WkC (W.setCell ⟨c.b, i, none⟩ v) c L.length gone' pv' bv' tv') (hp : pv' = .pointer none ∨ pv' = .pointer (some ⟨c.b, 11, none⟩)) (e1 : bv' = bv) (e2 : tv' = tv) : WSt L c gone' out ab pv' bv' tv' nn (W.setCell ⟨c.b, i, none⟩ v) := by
  subst e1 e2
  obtain ⟨ts, ht⟩ := h.nts
  have hba : c.ga ≠ c.b := fun e => ty_ne (e ▸ h.abv) h.blk (by decide)
  have hbm : c.gm ≠ c.b := fun e => h.ngm (.inl e)
  have hbb : ∀ k, bv'.ownBlock = some k → k ≠ c.b := fun k hk e => own_ne h.buf h.blk (by decide) (e ▸ hk)
  have hbt : ∀ k, tv'.ownBlock = some k → k ≠ c.b := fun k hk e => own_ne ht h.blk (by decide) (e ▸ hk)
  exact ⟨hs, hp, wown_keep h.buf (fun k hk => wset_other (hbb k hk)), h.emp, ⟨ts, wown_keep ht (fun k hk => wset_other (hbt k hk))⟩, (wset_other hbm).trans h.mea, (wset_other hba).trans h.abv, h.abl, h.row.below ((Below.refl c.B W).setCell (p := ⟨c.b, i, none⟩) h.bB _), h.bB, h.gB⟩
end Go.Proofs.YtfemboojdablhaaGreatDoor.Tre
