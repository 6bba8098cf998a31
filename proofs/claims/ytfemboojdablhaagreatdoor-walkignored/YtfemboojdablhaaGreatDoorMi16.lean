import Derived.Test.YtfemboojdablhaaGreatDoorMi13
import Derived.Test.YtfemboojdablhaaGreatDoorMi09
import Derived.Laws.CopyRow
import Derived.Laws.Rows
import Derived.Deep.WholeRow
namespace Go.Proofs.YtfemboojdablhaaGreatDoor
open Go.RowKit Go.Maps
theorem Box28.cells {W : World} {z : Nat} {op : Int} {s : ByteArray} {v : Value} (h : Box28 W z op s v) : W.cell? ⟨z, 0, none⟩ = some (.int .i64 op) ∧ W.cell? ⟨z, 1, none⟩ = some (.string s) ∧ W.cell? ⟨z, 2, none⟩ = some v := by
  unfold Box28 at h
  refine ⟨?_, ?_, ?_⟩ <;> simp [World.cell?, h]
def noneD : BSet := fun _ => false
def pcPre : PcD → List Value
  | .lit c => [.int .u8 (c.toNat : Int), .bool false, .bool false]
  | .wild m _ => [.int .u8 0, .bool true, .bool m]
def pcSet : PcD → BSet
  | .lit _ => noneD
  | .wild _ S => S
def pcL (p : PcD) : List Value := pcPre p ++ (bitsL (pcSet p) ++ [])
theorem pcPre_len (p : PcD) : (pcPre p).length = 3 := by cases p <;> rfl
theorem pcL_len (p : PcD) : (pcL p).length = 259 := by
  unfold pcL
  rw [List.length_append, List.length_append, pcPre_len, bitsL_len]
  rfl
theorem bits_one (S : BSet) : ∀ v ∈ bitsL S, v.oneCell' = true := by
  intro v hv
  unfold bitsL at hv
  obtain ⟨j, _, rfl⟩ := List.mem_map.1 hv
  rfl
theorem pcL_one (p : PcD) : ∀ v ∈ pcL p, v.oneCell' = true := by
  intro v hv
  unfold pcL at hv
  rcases List.mem_append.1 hv with hv | hv
  · cases p with
    | lit c => simp only [pcPre, List.mem_cons, List.not_mem_nil, or_false] at hv; rcases hv with rfl | rfl | rfl <;> rfl
    | wild m S => simp only [pcPre, List.mem_cons, List.not_mem_nil, or_false] at hv; rcases hv with rfl | rfl | rfl <;> rfl
  · rw [List.append_nil] at hv
    exact bits_one _ v hv
theorem st_blk {W : World} {g t : Nat} {xs ys : List Value} (h : W.heap[g]? = some (.cells xs.toArray t (0, 0))) (hl : ys.length = xs.length) (h1 : ∀ v ∈ ys, v.oneCell' = true) : (storeCells ⟨g, 0, none⟩ ys 0).run Tryz.prog W = .ok () (W.setRow g ys.toArray) := by
  have := run_storeCells_at (P := Tryz.prog) g 0 t ys 0 xs.toArray W h (by simp; omega) h1
  rw [this]
  congr 2
  simp [hl]
theorem row_blk {W : World} {g t : Nat} {xs : List Value} (h : W.heap[g]? = some (.cells xs.toArray t (0, 0))) (c : Array Value) : (W.setRow g c).heap[g]? = some (.cells c t (0, 0)) := by
  obtain ⟨hlt, hk⟩ := Array.getElem?_eq_some_iff.1 h
  show (W.heap.modify g _)[g]? = _
  rw [Array.getElem?_eq_getElem (by rw [Array.size_modify]; exact hlt), Array.getElem_modify_self, hk]
theorem row_grown (W : World) (g : Nat) (c : Array Value) : W.grownBy (W.setRow g c) (some g) := by
  refine ⟨rfl, rfl, rfl, ?_, fun k hk hne => ?_⟩
  · show W.heap.size ≤ (W.heap.modify g _).size
    rw [Array.size_modify]; exact Nat.le_refl _
  · show (W.heap.modify g _)[k]? = _
    rw [Array.getElem?_modify, if_neg (fun e => hne (by rw [e]))]
theorem zero112 : Tryz.zeroCells273 = (pcL (.lit 0)).toArray := by kernel_rfl
theorem Tryz.size273 : (Tryz.prog.info? 273).map (·.size) = some 259 := by kernel_rfl
theorem set0 (c : UInt8) : Tryz.zeroCells273.setIfInBounds 0 (.int .u8 (c.toNat : Int)) = (pcL (.lit c)).toArray := by
  rw [zero112]
  simp [pcL, pcPre, pcSet]
theorem set12 (m : Bool) : (Tryz.zeroCells273.setIfInBounds 1 (.bool true)).setIfInBounds 2 (.bool m) = (pcL (.wild m noneD)).toArray := by
  rw [zero112]
  simp [pcL, pcPre, pcSet]
set_option maxRecDepth 100000 in
set_option maxHeartbeats 1000000 in
theorem oneByte_any (c : UInt8) (w : World) :
    Calls Tryz.prog 227 #[.int .u8 (c.toNat : Int)] w fun e w' => e = .returned (.agg (pcL (.lit c)).toArray) ∧ Below w.heap.size w w' := by
  have hn : (w.alloc (.cells Tryz.zeroCells273 273)).heap[w.heap.size]? = some (.cells (pcL (.lit 0)).toArray 273 (0, 0)) := by
    have := World.alloc_heap_new w (.cells Tryz.zeroCells273 273)
    rw [this, zero112]
  have hst := st_blk hn (ys := pcL (.lit c)) (by rw [pcL_len, pcL_len]) (pcL_one _)
  have hs0 := set0 c
  have hl := pcL_len (.lit c)
  have hrow := row_blk hn (pcL (.lit c)).toArray
  have hb : Below w.heap.size w ((w.alloc (.cells Tryz.zeroCells273 273)).setRow w.heap.size (pcL (.lit c)).toArray) := ((Below.refl w.heap.size w).alloc (Nat.le_refl _) _).grown (row_grown _ _ _) (by simp) (fun k e => by cases e; exact Nat.le_refl _)
  have HR := hide hrow
  have HB := hide hb
  clear hrow hb hn
  go_enter Tryz.func227, Tryz.ntmps227
  go_wp2
  exact bodyPost_ret (results_cell_row rfl _ _ w.heap.size 273 _ (0, 0) _ rfl HR.out Tryz.underlying273 rfl (by rw [Tryz.size273]; simp [hl])) rfl ⟨rfl, HB.out⟩
set_option maxRecDepth 100000 in
set_option maxHeartbeats 1000000 in
theorem anyByte_any (m : Bool) (w : World) :
    Calls Tryz.prog 226 #[.bool m] w fun e w' => e = .returned (.agg (pcL (.wild m allD)).toArray) ∧ Below w.heap.size w w' := by
  obtain ⟨W1, hW1⟩ : ∃ W1, w.alloc (.cells Tryz.zeroCells273 273) = W1 := ⟨_, rfl⟩
  have hn1 : W1.heap[w.heap.size]? = some (.cells (pcL (.lit 0)).toArray 273 (0, 0)) := by
    have := World.alloc_heap_new w (.cells Tryz.zeroCells273 273)
    rw [← hW1, this, zero112]
  have z1 : W1.heap.size = w.heap.size + 1 := by rw [← hW1, World.size_alloc]
  have b1 : Below w.heap.size w W1 := by rw [← hW1]; exact (Below.refl _ _).alloc (Nat.le_refl _) _
  obtain ⟨W2, hW2⟩ : ∃ W2, W1.alloc (.cells Tryz.zeroCells273 273) = W2 := ⟨_, rfl⟩
  have hn2 : W2.heap[w.heap.size + 1]? = some (.cells (pcL (.lit 0)).toArray 273 (0, 0)) := by
    have := World.alloc_heap_new W1 (.cells Tryz.zeroCells273 273)
    rw [← z1, ← hW2, this, zero112]
  have hst := st_blk hn2 (ys := pcL (.wild m noneD)) (by rw [pcL_len, pcL_len]) (pcL_one _)
  have hs0 := set12 m
  have hl := pcL_len (.wild m noneD)
  have b12 : Below W1.heap.size W1 W2 := by rw [← hW2]; exact (Below.refl _ _).alloc (Nat.le_refl _) _
  obtain ⟨W3, hW3⟩ : ∃ W3, W2.setRow (w.heap.size + 1) (pcL (.wild m noneD)).toArray = W3 := ⟨_, rfl⟩
  have hg3 : W2.grownBy W3 (some (w.heap.size + 1)) := by rw [← hW3]; exact row_grown _ _ _
  have hb3 : BBlk W3 (w.heap.size + 1) 273 [.int .u8 0, .bool true, .bool m] noneD [] := by rw [← hW3]; exact row_blk hn2 _
  have hn13 : W3.heap[w.heap.size]? = some (.cells (pcL (.lit 0)).toArray 273 (0, 0)) := (hg3.block _ (by have := b12.size; omega) (fun e => by have := Option.some.inj e; omega)).trans ((b12.block _ (by omega)).trans hn1)
  have ht := turn_any (w.heap.size + 1) 3 273 _ _ _ W3 hb3 rfl
  rw [hW3] at hst
  have h03 : Below w.heap.size w W3 := (b1.trans (b12.mono (by omega))).grown hg3 (by have := b12.size; omega) (fun k e => by cases e; omega)
  have HN := hide hn13
  have HB := hide h03
  rw [← hW1] at hW2
  have hWW : (w.alloc (.cells Tryz.zeroCells273 273)).alloc (.cells Tryz.zeroCells273 273) = W2 := hW2
  clear hn1 z1 b1 hn2 b12 hW3 hg3 hb3 hn13 h03 hW1 hW2
  go_enter Tryz.func226, Tryz.ntmps226
  go_wp2_with fail
  refine ht.mono ?_
  rintro e w4 ⟨rfl, hb4, hg4, hz4⟩
  have hB3 := HB.out.size
  have hlt3 : w.heap.size < W3.heap.size := (Array.getElem?_eq_some_iff.1 HN.out).1
  have hn4 : w4.heap[w.heap.size]? = some (.cells (pcL (.lit 0)).toArray 273 (0, 0)) := (hg4.block _ hlt3 (fun e => by have := Option.some.inj e; omega)).trans HN.out
  have hb4' : w4.heap[w.heap.size + 1]? = some (.cells (pcL (.wild m allD)).toArray 273 (0, 0)) := by
    have := hb4
    unfold BBlk at this
    exact this
  have hst4 := st_blk hn4 (ys := pcL (.wild m allD)) (by rw [pcL_len, pcL_len]) (pcL_one _)
  have hl5 := pcL_len (.wild m allD)
  have hrow := row_blk hn4 (pcL (.wild m allD)).toArray
  have hb04 : Below w.heap.size w w4 := HB.out.grown hg4 hB3 (fun k e => by cases e; omega)
  have hb05 : Below w.heap.size w (w4.setRow w.heap.size (pcL (.wild m allD)).toArray) := hb04.grown (row_grown _ _ _) hb04.size (fun k e => by cases e; exact Nat.le_refl _)
  have HR := hide hrow
  have HB5 := hide hb05
  have HL4 := hide hb4'
  clear ht hst hs0 hl hWW hb4 hg4 hz4 hB3 hlt3 hn4 hb4' hrow hb04 hb05
  go_wp2_with (show wpList _ _ _ (Oper.mk _ (Op.load 273 _) _ _ _ _ :: _) _ _; refine wpList_load_row rfl 273 (.tmp 3) rfl (w.heap.size + 1) rfl 273 _ (0, 0) _ HL4.out Tryz.underlying273 rfl (by rw [Tryz.size273]; simp [hl5]) ?_)
  exact bodyPost_ret (results_cell_row rfl _ _ w.heap.size 273 _ (0, 0) _ rfl HR.out Tryz.underlying273 rfl (by rw [Tryz.size273]; simp [hl5])) rfl ⟨rfl, HB5.out⟩
theorem wpList_load_cells {ops : Array Oper} {rest : List Oper} {o : Oper} {a : Act} {w : World} {Q : Exit → Act → World → Prop} (hgd : o.guard = none) (ty : TypeId) (x : Operand) (ho : o.op = .load ty x)
    (ad : Addr) (hx : a.eval x = .pointer (some ad)) (n : Nat) (cs : Array Value) (hag : ∀ w, (isAgg ty).run Tryz.prog w = .ok true w) (hsz : ∀ w, (sizeOf ty).run Tryz.prog w = .ok n w) (hld : (loadCellsFrom ad 0 n #[]).run Tryz.prog w = .ok cs w)
    (h : wpList Tryz.prog ops Q rest (a.put o.dst (.agg cs)) w) : wpList Tryz.prog ops Q (o :: rest) a w := by
  refine wpList_plain hgd fun _ hK => ?_
  unfold Oper.wp execOp
  simp only [ho, hx, Instr.loadAt, Instr.sureAddr, loadVar, loadCells, Sem.run_bind, Sem.run_pure, Result.andThen_ok, hag, hsz, hld, if_true]
  exact hK _ _ h
def PcAt (W : World) (g o : Nat) (p : PcD) : Prop := ∀ (j : Nat) (v : Value), (pcL p)[j]? = some v → W.cell? ⟨g, o + j, none⟩ = some v
theorem PcAt.below {B : Nat} {W W' : World} {g o : Nat} {p : PcD} (h : PcAt W g o p) (hb : Below B W W') (hg : g < B) : PcAt W' g o p := fun j v hv => (hb.cell (p := ⟨g, o + j, none⟩) hg).trans (h j v hv)
theorem PcAt.w0 {W : World} {g o : Nat} {p : PcD} (h : PcAt W g o p) : W.cell? ⟨g, o, none⟩ = some (.int .u8 ((writtenD p).toNat : Int)) := by
  have := h 0 (.int .u8 ((writtenD p).toNat : Int)) (by cases p <;> rfl)
  exact this
def wildB : PcD → Bool
  | .lit _ => false
  | .wild _ _ => true
def manyB : PcD → Bool
  | .lit _ => false
  | .wild m _ => m
theorem PcAt.w1 {W : World} {g o : Nat} {p : PcD} (h : PcAt W g o p) : W.cell? ⟨g, o + 1, none⟩ = some (.bool (wildB p)) := h 1 _ (by cases p <;> rfl)
theorem PcAt.w2 {W : World} {g o : Nat} {p : PcD} (h : PcAt W g o p) : W.cell? ⟨g, o + 2, none⟩ = some (.bool (manyB p)) := h 2 _ (by cases p <;> rfl)
theorem PcAt.bits {W : World} {g o : Nat} {p : PcD} (h : PcAt W g o p) : (loadCellsFrom ⟨g, o + 3, none⟩ 0 256 #[]).run Tryz.prog W = .ok (bitsL (pcSet p)).toArray W := by
  have := run_loadCells_list (P := Tryz.prog) W ⟨g, o + 3, none⟩ (bitsL (pcSet p)) (fun j v hv => by
    have hadd : (⟨g, o + 3, none⟩ : Addr).add j = ⟨g, o + 3 + j, none⟩ := by unfold Addr.add; split <;> simp_all
    rw [hadd]
    have hlt : j < 256 := by have := (List.getElem?_eq_some_iff.1 hv).1; rw [bitsL_len] at this; exact this
    have e : (pcL p)[3 + j]? = some v := by
      unfold pcL
      rw [List.getElem?_append_right (by rw [pcPre_len]; omega), pcPre_len, Nat.add_sub_cancel_left, List.append_nil]
      exact hv
    have := h (3 + j) v e
    rw [← Nat.add_assoc] at this
    exact this)
  rw [bitsL_len] at this
  exact this
theorem zero110 : Tryz.zeroCells271 = (bitsL noneD).toArray := by kernel_rfl
set_option maxRecDepth 100000 in
set_option maxHeartbeats 1000000 in
theorem expr_any (g o : Nat) (p : PcD) (way : Bool) (w : World) (h : PcAt w g o p) (hg : g < w.heap.size) :
    Calls Tryz.prog 194 #[.pointer (some ⟨g, o, none⟩), .bool way] w fun e w' => ∃ op s v ks, e = .returned (.agg #[.int .i64 op, .string s, v]) ∧ s.size ≤ 1000 ∧ exprD way p = .mk op s.data.toList ks ∧ KidsIn (New w w') w' v ks ∧ Below w.heap.size w w' := by
  have h0 := h.w0
  have h1 := h.w1
  have h2 := h.w2
  cases p with
  | lit c =>
    simp only [writtenD, wildB, manyB] at h0 h1 h2
    have f0 : ∀ x, (w.alloc x).cell? ⟨g, o, none⟩ = some (.int .u8 (c.toNat : Int)) := fun x => (((Below.refl w.heap.size w).alloc (Nat.le_refl _) x).cell (p := ⟨g, o, none⟩) hg).trans h0
    have f1 : ∀ x, (w.alloc x).cell? ⟨g, o + 1, none⟩ = some (.bool false) := fun x => (((Below.refl w.heap.size w).alloc (Nat.le_refl _) x).cell (p := ⟨g, o + 1, none⟩) hg).trans h1
    have hcv : ∀ x, (Go.convert 87 9 (.slice (some ⟨w.heap.size + 1, 0, none⟩) 1 1)).run Tryz.prog ((w.alloc x).alloc (.cells #[.int .u8 (c.toNat : Int)] 5)) = .ok (.string ⟨#[c]⟩) ((w.alloc x).alloc (.cells #[.int .u8 (c.toNat : Int)] 5)) := fun x =>
      conv_any (B := 0) (l := [c]) ⟨rfl, .inr ⟨w.heap.size + 1, 1, #[.int .u8 (c.toNat : Int)], rfl, Nat.zero_le _, (by have := World.alloc_heap_new (w.alloc x) (.cells #[.int .u8 (c.toNat : Int)] 5); rw [World.size_alloc] at this; exact this), Nat.le_refl _, by unfold maxLen; decide, rfl, rfl⟩⟩
    clear h h0 h1 h2
    go_enter Tryz.func194, Tryz.ntmps194
    go_wp2
    refine bodyPost_ret (v := .agg #[.int .i64 2, .string ⟨#[c]⟩, .slice none 0 0]) (by simp [results, Tryz.results194, go_sem]) rfl ?_
    exact ⟨2, ⟨#[c]⟩, .slice none 0 0, [], rfl, by show 1 ≤ 1000; decide, rfl, .inl ⟨rfl, rfl⟩, ((Below.refl _ _).alloc (Nat.le_refl _) _).alloc (by simp) _⟩
  | wild m S =>
    simp only [writtenD, wildB, manyB] at h0 h1 h2
    obtain ⟨W1, hW1⟩ : ∃ W1, w.alloc (.cells #[.int .i64 0, .string ⟨#[]⟩, .slice none 0 0] 163) = W1 := ⟨_, rfl⟩
    have z1 : W1.heap.size = w.heap.size + 1 := by rw [← hW1, World.size_alloc]
    have b1 : Below w.heap.size w W1 := by rw [← hW1]; exact (Below.refl _ _).alloc (Nat.le_refl _) _
    have hr1 : W1.heap[w.heap.size]? = some (.cells #[.int .i64 0, .string ⟨#[]⟩, .slice none 0 0] 163 (0, 0)) := by rw [← hW1]; exact World.alloc_heap_new w _
    have hbits : (loadCellsFrom ⟨g, o + 3, none⟩ 0 256 #[]).run Tryz.prog W1 = .ok (bitsL S).toArray W1 := (h.below b1 hg).bits
    have f1 : W1.cell? ⟨g, o + 1, none⟩ = some (.bool true) := (b1.cell (p := ⟨g, o + 1, none⟩) hg).trans h1
    obtain ⟨W2, hW2⟩ : ∃ W2, W1.alloc (.cells Tryz.zeroCells271 271) = W2 := ⟨_, rfl⟩
    have hn2 : W2.heap[W1.heap.size]? = some (.cells (bitsL noneD).toArray 271 (0, 0)) := by
      have := World.alloc_heap_new W1 (.cells Tryz.zeroCells271 271)
      rw [← hW2, this, zero110]
    have hst := st_blk hn2 (ys := bitsL S) (by rw [bitsL_len, bitsL_len]) (bits_one S)
    have hl := bitsL_len S
    have b12 : Below W1.heap.size W1 W2 := by rw [← hW2]; exact (Below.refl _ _).alloc (Nat.le_refl _) _
    obtain ⟨W3, hW3⟩ : ∃ W3, W2.setRow W1.heap.size (bitsL S).toArray = W3 := ⟨_, rfl⟩
    have hg3 : W2.grownBy W3 (some W1.heap.size) := by rw [← hW3]; exact row_grown _ _ _
    have hb3 : BBlk W3 W1.heap.size 271 [] S [] := by
      rw [← hW3]
      have := row_blk hn2 (bitsL S).toArray
      unfold BBlk
      rw [this]
      simp
    have hb03 : Below W1.heap.size W1 W3 := b12.grown hg3 b12.size (fun k e => by cases e; exact Nat.le_refl _)
    have hz3 : W1.heap.size < W3.heap.size := hb3.lt
    rw [hW3] at hst
    have HH := hide h
    have HB1 := hide b1
    have HR1 := hide hr1
    have HB3 := hide hb3
    have HB03 := hide hb03
    have HZ3 := hide hz3
    clear h h0 h1 h2 z1 b1 hr1 hn2 b12 hW3 hg3 hb3 hb03 hz3
    go_enter Tryz.func194, Tryz.ntmps194
    cases way with
    | false =>
      have ht := text_any W1.heap.size 0 271 [] [] S W3 HB3.out rfl
      have HT : Hid (textD S = textD (wayD false S)) := by
        have : wayD false S = S := funext fun j => by simp [wayD]
        show textD S = textD (wayD false S)
        rw [this]
      have HB4 := HB03
      have HZ4 : Hid (W1.heap.size ≤ W3.heap.size) := Nat.le_of_lt HZ3.out
      go_wp2_with (show wpList _ _ _ (Oper.mk _ (Op.load 271 _) _ _ _ _ :: _) _ _; refine wpList_load_cells rfl 271 _ rfl ⟨g, o + 3, none⟩ rfl 256 _ Tryz.isAgg271 Tryz.sizeOf271 hbits ?_)
      refine ht.mono ?_
      rintro e w5 ⟨rfl, b5⟩
      rw [HT.out]
      obtain ⟨tx, htx⟩ : ∃ tx : ByteArray, tx = ⟨(textD (wayD false S)).toArray⟩ := ⟨_, rfl⟩
      rw [← htx]
      have TL : tx.size ≤ 1000 := by
        rw [htx]
        show (textD (wayD false S)).toArray.size ≤ 1000
        rw [List.size_toArray]
        have := textTo_len (wayD false S) 256
        unfold textTo at this
        unfold textD
        omega
      have TD : tx.data.toList = textD (wayD false S) := by rw [htx]
      have b15 : Below W1.heap.size W1 w5 := HB4.out.trans (b5.mono HZ4.out)
      have b05 : Below w.heap.size w w5 := HB1.out.trans (b15.mono HB1.out.size)
      have hr5 : w5.heap[w.heap.size]? = some (.cells #[.int .i64 0, .string ⟨#[]⟩, .slice none 0 0] 163 (0, 0)) := (b15.block _ (Array.getElem?_eq_some_iff.1 HR1.out).1).trans HR1.out
      have hlt5 : w.heap.size < w5.heap.size := (Array.getElem?_eq_some_iff.1 hr5).1
      obtain ⟨Wz, hWz⟩ : ∃ Wz, w5.alloc (.cells #[.int .i64 0, .string ⟨#[]⟩, .slice none 0 0] 163) = Wz := ⟨_, rfl⟩
      have hzz : Wz.heap[w5.heap.size]? = some (.cells #[.int .i64 0, .string ⟨#[]⟩, .slice none 0 0] 163 (0, 0)) := by rw [← hWz]; exact World.alloc_heap_new w5 _
      have b5z : Below w5.heap.size w5 Wz := by rw [← hWz]; exact (Below.refl _ _).alloc (Nat.le_refl _) _
      have zz : Wz.heap.size = w5.heap.size + 1 := by rw [← hWz, World.size_alloc]
      obtain ⟨zq0, zq1, zq2, zqf⟩ := zcells hzz
      obtain ⟨x6, hbz⟩ := set3 hzz (.int .i64 2) (.string tx) (.slice none 0 0)
      obtain ⟨W6, hW6⟩ : ∃ W6, ((Wz.setCell ⟨w5.heap.size, 0, none⟩ (.int .i64 2)).setCell ⟨w5.heap.size, 1, none⟩ (.string tx)).setCell ⟨w5.heap.size, 2, none⟩ (.slice none 0 0) = W6 := ⟨_, rfl⟩
      rw [hW6] at x6 hbz
      have z6 : W6.heap.size = w5.heap.size + 1 := by rw [← hW6, set_size, set_size, set_size, zz]
      have b56 : Below w5.heap.size w5 W6 := ⟨by rw [← hW6]; exact b5z.os, by rw [← hW6]; exact b5z.tape, by rw [← hW6]; exact b5z.output, by omega, fun k hk => (hbz k (by omega)).trans (b5z.block k hk)⟩
      have b06 : Below w.heap.size w W6 := b05.trans (b56.mono b05.size)
      have x6 : Box28 W6 w5.heap.size 2 tx (.slice none 0 0) := x6
      have p6 := (HH.out.below b06 hg).w2
      simp only [manyB] at p6
      have hr6 : W6.heap[w.heap.size]? = some (.cells #[.int .i64 0, .string ⟨#[]⟩, .slice none 0 0] 163 (0, 0)) := (b56.block _ hlt5).trans hr5
      obtain ⟨x0, x1, x2⟩ := x6.cells
      clear hzz b5z zz hbz ht hst hl hW1 hW2 hbits f1 htx HB4 HZ4 HT
      cases m with
      | false =>
        obtain ⟨q0, q1, q2, qf⟩ := zcells hr6
        obtain ⟨hz7, hb7⟩ := set3 hr6 (.int .i64 2) (.string tx) (.slice none 0 0)
        obtain ⟨W7, hW7⟩ : ∃ W7, ((W6.setCell ⟨w.heap.size, 0, none⟩ (.int .i64 2)).setCell ⟨w.heap.size, 1, none⟩ (.string tx)).setCell ⟨w.heap.size, 2, none⟩ (.slice none 0 0) = W7 := ⟨_, rfl⟩
        rw [hW7] at hz7 hb7
        have hsz7 : W6.heap.size = W7.heap.size := by rw [← hW7, set_size, set_size, set_size]
        have hbel : Below w.heap.size w W7 := ⟨by rw [← hW7]; exact b06.os, by rw [← hW7]; exact b06.tape, by rw [← hW7]; exact b06.output, by rw [← hsz7]; exact b06.size, fun k hk => (hb7 k (by omega)).trans (b06.block k hk)⟩
        have HZ7 := hide hz7
        have HBEL := hide hbel
        clear b5 b15 b05 hr5 b56 b06 x6 z6 hr6 hz7 hb7 hsz7 hbel
        go_wp2
        try rw [hW7]
        obtain ⟨e0, e1, e2, _⟩ := zcells HZ7.out
        refine bodyPost_ret (v := .agg #[.int .i64 2, .string tx, .slice none 0 0]) (by simp [results, Tryz.results194, go_sem, e0, e1, e2]) rfl ?_
        exact ⟨2, tx, .slice none 0 0, [], rfl, TL, by rw [TD]; rfl, .inl ⟨rfl, rfl⟩, HBEL.out⟩
      | true =>
        obtain ⟨W8, hW8⟩ : ∃ W8, W6.alloc (.cells #[.int .i64 2, .string tx, .slice none 0 0] 163) = W8 := ⟨_, rfl⟩
        have b68 : Below W6.heap.size W6 W8 := by rw [← hW8]; exact (Below.refl _ _).alloc (Nat.le_refl _) _
        have x8 : Box28 W8 W6.heap.size 2 tx (.slice none 0 0) := by rw [← hW8]; exact World.alloc_heap_new W6 _
        have z8 : W8.heap.size = W6.heap.size + 1 := by rw [← hW8, World.size_alloc]
        have b08 : Below w.heap.size w W8 := b06.trans (b68.mono b06.size)
        have hr8 : W8.heap[w.heap.size]? = some (.cells #[.int .i64 0, .string ⟨#[]⟩, .slice none 0 0] 163 (0, 0)) := (b68.block _ (by omega)).trans hr6
        obtain ⟨q0, q1, q2, qf⟩ := zcells hr8
        obtain ⟨hz7, hb7⟩ := set3 hr8 (.int .i64 5) (.string ⟨#[]⟩) (.slice (some ⟨W6.heap.size, 0, none⟩) 1 1)
        obtain ⟨W7, hW7⟩ : ∃ W7, ((W8.setCell ⟨w.heap.size, 0, none⟩ (.int .i64 5)).setCell ⟨w.heap.size, 1, none⟩ (.string ⟨#[]⟩)).setCell ⟨w.heap.size, 2, none⟩ (.slice (some ⟨W6.heap.size, 0, none⟩) 1 1) = W7 := ⟨_, rfl⟩
        rw [hW7] at hz7 hb7
        have hsz7 : W8.heap.size = W7.heap.size := by rw [← hW7, set_size, set_size, set_size]
        have hbel : Below w.heap.size w W7 := ⟨by rw [← hW7]; exact b08.os, by rw [← hW7]; exact b08.tape, by rw [← hW7]; exact b08.output, by rw [← hsz7]; exact b08.size, fun k hk => (hb7 k (by omega)).trans (b08.block k hk)⟩
        have x7 : Box28 W7 W6.heap.size 2 tx (.slice none 0 0) := (hb7 _ (by omega)).trans x8
        have HZ7 := hide hz7
        have HBEL := hide hbel
        have HX7 := hide x7
        have HNEW : Hid (New w W7 W6.heap.size) := ⟨by have := b06.size; omega, by omega⟩
        clear b5 b15 b05 hr5 b56 b06 x6 z6 hr6 hz7 hb7 hsz7 hbel b68 x8 z8 b08 hr8 x7
        go_wp2
        try rw [hW7]
        obtain ⟨e0, e1, e2, _⟩ := zcells HZ7.out
        refine bodyPost_ret (v := .agg #[.int .i64 5, .string ⟨#[]⟩, .slice (some ⟨W6.heap.size, 0, none⟩) 1 1]) (by simp [results, Tryz.results194, go_sem, e0, e1, e2]) rfl ?_
        refine ⟨5, ⟨#[]⟩, _, [.mk 2 (textD (wayD false S)) []], rfl, by decide, rfl, .inr ⟨W6.heap.size, 1, rfl, Nat.le_refl _, fun i k hi => ?_⟩, HBEL.out⟩
        match i, hi with
        | 0, hi =>
          cases hi
          obtain ⟨y0, y1, y2⟩ := HX7.out.cells
          have := ExprIn.nil (S := New w W7) (W := W7) W6.heap.size 0 2 tx HNEW.out y0 y1 y2 (by omega)
          rw [TD] at this
          exact this
    | true =>
      obtain ⟨W4, hW4⟩ : ∃ W4, W3.setCell ⟨W1.heap.size, 47, none⟩ (.bool false) = W4 := ⟨_, rfl⟩
      have hbb4 : BBlk W4 W1.heap.size 271 [] (updD S 47 false) [] := by
        rw [← hW4]
        have := HB3.out.set (i := 47) (by decide) false
        simpa using this
      have ht := text_any W1.heap.size 0 271 [] [] (updD S 47 false) W4 hbb4 rfl
      have HT : Hid (textD (updD S 47 false) = textD (wayD true S)) := by
        have : wayD true S = updD S 47 false := funext fun j => by
          unfold wayD updD
          by_cases e : j = 47
          · simp [e]
          · simp [e]
        show textD (updD S 47 false) = textD (wayD true S)
        rw [this]
      have hc47 : W3.cell? ⟨W1.heap.size, 47, none⟩ = some (.bool (S 47)) := by
        have := HB3.out.cell (i := 47) (by decide)
        simpa using this
      have hf47 := HB3.out.frozen 47
      have hg4 : W3.grownBy W4 (some W1.heap.size) := by rw [← hW4]; exact set_grown _ _ _ _
      have HB4 : Hid (Below W1.heap.size W1 W4) := HB03.out.grown hg4 (Nat.le_of_lt HZ3.out) (fun k e => by cases e; exact Nat.le_refl _)
      have HZ4 : Hid (W1.heap.size ≤ W4.heap.size) := Nat.le_of_lt hbb4.lt
      clear hbb4 hg4
      go_wp2_with (show wpList _ _ _ (Oper.mk _ (Op.load 271 _) _ _ _ _ :: _) _ _; refine wpList_load_cells rfl 271 _ rfl ⟨g, o + 3, none⟩ rfl 256 _ Tryz.isAgg271 Tryz.sizeOf271 hbits ?_)
      refine ht.mono ?_
      rintro e w5 ⟨rfl, b5⟩
      rw [HT.out]
      obtain ⟨tx, htx⟩ : ∃ tx : ByteArray, tx = ⟨(textD (wayD true S)).toArray⟩ := ⟨_, rfl⟩
      rw [← htx]
      have TL : tx.size ≤ 1000 := by
        rw [htx]
        show (textD (wayD true S)).toArray.size ≤ 1000
        rw [List.size_toArray]
        have := textTo_len (wayD true S) 256
        unfold textTo at this
        unfold textD
        omega
      have TD : tx.data.toList = textD (wayD true S) := by rw [htx]
      have b15 : Below W1.heap.size W1 w5 := HB4.out.trans (b5.mono HZ4.out)
      have b05 : Below w.heap.size w w5 := HB1.out.trans (b15.mono HB1.out.size)
      have hr5 : w5.heap[w.heap.size]? = some (.cells #[.int .i64 0, .string ⟨#[]⟩, .slice none 0 0] 163 (0, 0)) := (b15.block _ (Array.getElem?_eq_some_iff.1 HR1.out).1).trans HR1.out
      have hlt5 : w.heap.size < w5.heap.size := (Array.getElem?_eq_some_iff.1 hr5).1
      obtain ⟨Wz, hWz⟩ : ∃ Wz, w5.alloc (.cells #[.int .i64 0, .string ⟨#[]⟩, .slice none 0 0] 163) = Wz := ⟨_, rfl⟩
      have hzz : Wz.heap[w5.heap.size]? = some (.cells #[.int .i64 0, .string ⟨#[]⟩, .slice none 0 0] 163 (0, 0)) := by rw [← hWz]; exact World.alloc_heap_new w5 _
      have b5z : Below w5.heap.size w5 Wz := by rw [← hWz]; exact (Below.refl _ _).alloc (Nat.le_refl _) _
      have zz : Wz.heap.size = w5.heap.size + 1 := by rw [← hWz, World.size_alloc]
      obtain ⟨zq0, zq1, zq2, zqf⟩ := zcells hzz
      obtain ⟨x6, hbz⟩ := set3 hzz (.int .i64 2) (.string tx) (.slice none 0 0)
      obtain ⟨W6, hW6⟩ : ∃ W6, ((Wz.setCell ⟨w5.heap.size, 0, none⟩ (.int .i64 2)).setCell ⟨w5.heap.size, 1, none⟩ (.string tx)).setCell ⟨w5.heap.size, 2, none⟩ (.slice none 0 0) = W6 := ⟨_, rfl⟩
      rw [hW6] at x6 hbz
      have z6 : W6.heap.size = w5.heap.size + 1 := by rw [← hW6, set_size, set_size, set_size, zz]
      have b56 : Below w5.heap.size w5 W6 := ⟨by rw [← hW6]; exact b5z.os, by rw [← hW6]; exact b5z.tape, by rw [← hW6]; exact b5z.output, by omega, fun k hk => (hbz k (by omega)).trans (b5z.block k hk)⟩
      have b06 : Below w.heap.size w W6 := b05.trans (b56.mono b05.size)
      have x6 : Box28 W6 w5.heap.size 2 tx (.slice none 0 0) := x6
      have p6 := (HH.out.below b06 hg).w2
      simp only [manyB] at p6
      have hr6 : W6.heap[w.heap.size]? = some (.cells #[.int .i64 0, .string ⟨#[]⟩, .slice none 0 0] 163 (0, 0)) := (b56.block _ hlt5).trans hr5
      obtain ⟨x0, x1, x2⟩ := x6.cells
      clear hzz b5z zz hbz ht hst hl hW1 hW2 hbits f1 htx HB4 HZ4 HT hc47 hf47 hW4
      cases m with
      | false =>
        obtain ⟨q0, q1, q2, qf⟩ := zcells hr6
        obtain ⟨hz7, hb7⟩ := set3 hr6 (.int .i64 2) (.string tx) (.slice none 0 0)
        obtain ⟨W7, hW7⟩ : ∃ W7, ((W6.setCell ⟨w.heap.size, 0, none⟩ (.int .i64 2)).setCell ⟨w.heap.size, 1, none⟩ (.string tx)).setCell ⟨w.heap.size, 2, none⟩ (.slice none 0 0) = W7 := ⟨_, rfl⟩
        rw [hW7] at hz7 hb7
        have hsz7 : W6.heap.size = W7.heap.size := by rw [← hW7, set_size, set_size, set_size]
        have hbel : Below w.heap.size w W7 := ⟨by rw [← hW7]; exact b06.os, by rw [← hW7]; exact b06.tape, by rw [← hW7]; exact b06.output, by rw [← hsz7]; exact b06.size, fun k hk => (hb7 k (by omega)).trans (b06.block k hk)⟩
        have HZ7 := hide hz7
        have HBEL := hide hbel
        clear b5 b15 b05 hr5 b56 b06 x6 z6 hr6 hz7 hb7 hsz7 hbel
        go_wp2
        try rw [hW7]
        obtain ⟨e0, e1, e2, _⟩ := zcells HZ7.out
        refine bodyPost_ret (v := .agg #[.int .i64 2, .string tx, .slice none 0 0]) (by simp [results, Tryz.results194, go_sem, e0, e1, e2]) rfl ?_
        exact ⟨2, tx, .slice none 0 0, [], rfl, TL, by rw [TD]; rfl, .inl ⟨rfl, rfl⟩, HBEL.out⟩
      | true =>
        obtain ⟨W8, hW8⟩ : ∃ W8, W6.alloc (.cells #[.int .i64 2, .string tx, .slice none 0 0] 163) = W8 := ⟨_, rfl⟩
        have b68 : Below W6.heap.size W6 W8 := by rw [← hW8]; exact (Below.refl _ _).alloc (Nat.le_refl _) _
        have x8 : Box28 W8 W6.heap.size 2 tx (.slice none 0 0) := by rw [← hW8]; exact World.alloc_heap_new W6 _
        have z8 : W8.heap.size = W6.heap.size + 1 := by rw [← hW8, World.size_alloc]
        have b08 : Below w.heap.size w W8 := b06.trans (b68.mono b06.size)
        have hr8 : W8.heap[w.heap.size]? = some (.cells #[.int .i64 0, .string ⟨#[]⟩, .slice none 0 0] 163 (0, 0)) := (b68.block _ (by omega)).trans hr6
        obtain ⟨q0, q1, q2, qf⟩ := zcells hr8
        obtain ⟨hz7, hb7⟩ := set3 hr8 (.int .i64 5) (.string ⟨#[]⟩) (.slice (some ⟨W6.heap.size, 0, none⟩) 1 1)
        obtain ⟨W7, hW7⟩ : ∃ W7, ((W8.setCell ⟨w.heap.size, 0, none⟩ (.int .i64 5)).setCell ⟨w.heap.size, 1, none⟩ (.string ⟨#[]⟩)).setCell ⟨w.heap.size, 2, none⟩ (.slice (some ⟨W6.heap.size, 0, none⟩) 1 1) = W7 := ⟨_, rfl⟩
        rw [hW7] at hz7 hb7
        have hsz7 : W8.heap.size = W7.heap.size := by rw [← hW7, set_size, set_size, set_size]
        have hbel : Below w.heap.size w W7 := ⟨by rw [← hW7]; exact b08.os, by rw [← hW7]; exact b08.tape, by rw [← hW7]; exact b08.output, by rw [← hsz7]; exact b08.size, fun k hk => (hb7 k (by omega)).trans (b08.block k hk)⟩
        have x7 : Box28 W7 W6.heap.size 2 tx (.slice none 0 0) := (hb7 _ (by omega)).trans x8
        have HZ7 := hide hz7
        have HBEL := hide hbel
        have HX7 := hide x7
        have HNEW : Hid (New w W7 W6.heap.size) := ⟨by have := b06.size; omega, by omega⟩
        clear b5 b15 b05 hr5 b56 b06 x6 z6 hr6 hz7 hb7 hsz7 hbel b68 x8 z8 b08 hr8 x7
        go_wp2
        try rw [hW7]
        obtain ⟨e0, e1, e2, _⟩ := zcells HZ7.out
        refine bodyPost_ret (v := .agg #[.int .i64 5, .string ⟨#[]⟩, .slice (some ⟨W6.heap.size, 0, none⟩) 1 1]) (by simp [results, Tryz.results194, go_sem, e0, e1, e2]) rfl ?_
        refine ⟨5, ⟨#[]⟩, _, [.mk 2 (textD (wayD true S)) []], rfl, by decide, rfl, .inr ⟨W6.heap.size, 1, rfl, Nat.le_refl _, fun i k hi => ?_⟩, HBEL.out⟩
        match i, hi with
        | 0, hi =>
          cases hi
          obtain ⟨y0, y1, y2⟩ := HX7.out.cells
          have := ExprIn.nil (S := New w W7) (W := W7) W6.heap.size 0 2 tx HNEW.out y0 y1 y2 (by omega)
          rw [TD] at this
          exact this
end Go.Proofs.YtfemboojdablhaaGreatDoor
