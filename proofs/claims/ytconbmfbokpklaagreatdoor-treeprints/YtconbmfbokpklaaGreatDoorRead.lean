/- The program's readNumbers, plainByte, readText and the five readers of a line's fields. -/
import Derived.Test.YtconbmfbokpklaaGreatDoorNames
namespace Go.Proofs.YtconbmfbokpklaaGreatDoor
open Go.RowKit

/-- Block b is a node of the program's by itself. -/
def BoxP (W : World) (b : Nat) (k : Int) (nm : ByteArray) (up sz tm : Int) (tx : ByteArray) (kv : Value) : Prop :=
  W.heap[b]? = some (.cells #[.int .u8 k, .string nm, .int .i64 up, .int .i64 sz, .int .i64 tm, .string tx, kv] 33)
theorem BoxP.cells {W : World} {b : Nat} {k : Int} {nm : ByteArray} {up sz tm : Int} {tx : ByteArray} {kv : Value} (h : BoxP W b k nm up sz tm tx kv) :
    W.cell? ⟨b, 0, none⟩ = some (.int .u8 k) ∧ W.cell? ⟨b, 1, none⟩ = some (.string nm) ∧ W.cell? ⟨b, 2, none⟩ = some (.int .i64 up) ∧ W.cell? ⟨b, 3, none⟩ = some (.int .i64 sz) ∧ W.cell? ⟨b, 4, none⟩ = some (.int .i64 tm) ∧ W.cell? ⟨b, 5, none⟩ = some (.string tx) ∧ W.cell? ⟨b, 6, none⟩ = some kv ∧ ∀ j, W.frozen? ⟨b, j, none⟩ = false := by
  have h2 : W.heap[b]? = _ := h
  simp [World.cell?, World.frozen?, h2]
theorem BoxP.set0 {W : World} {b : Nat} {k : Int} {nm : ByteArray} {up sz tm : Int} {tx : ByteArray} {kv : Value} (h : BoxP W b k nm up sz tm tx kv) (x : Int) : BoxP (W.setCell ⟨b, 0, none⟩ (.int .u8 x)) b x nm up sz tm tx kv := by
  obtain ⟨hlt, hk⟩ := Array.getElem?_eq_some_iff.1 h
  show (W.heap.modify b _)[b]? = _
  rw [Array.getElem?_eq_getElem (by rw [Array.size_modify]; exact hlt), Array.getElem_modify_self, hk]
  rfl
theorem BoxP.set3 {W : World} {b : Nat} {k : Int} {nm : ByteArray} {up sz tm : Int} {tx : ByteArray} {kv : Value} (h : BoxP W b k nm up sz tm tx kv) (x : Int) : BoxP (W.setCell ⟨b, 3, none⟩ (.int .i64 x)) b k nm up x tm tx kv := by
  obtain ⟨hlt, hk⟩ := Array.getElem?_eq_some_iff.1 h
  show (W.heap.modify b _)[b]? = _
  rw [Array.getElem?_eq_getElem (by rw [Array.size_modify]; exact hlt), Array.getElem_modify_self, hk]
  rfl
theorem BoxP.set4 {W : World} {b : Nat} {k : Int} {nm : ByteArray} {up sz tm : Int} {tx : ByteArray} {kv : Value} (h : BoxP W b k nm up sz tm tx kv) (x : Int) : BoxP (W.setCell ⟨b, 4, none⟩ (.int .i64 x)) b k nm up sz x tx kv := by
  obtain ⟨hlt, hk⟩ := Array.getElem?_eq_some_iff.1 h
  show (W.heap.modify b _)[b]? = _
  rw [Array.getElem?_eq_getElem (by rw [Array.size_modify]; exact hlt), Array.getElem_modify_self, hk]
  rfl
theorem BoxP.set5 {W : World} {b : Nat} {k : Int} {nm : ByteArray} {up sz tm : Int} {tx : ByteArray} {kv : Value} (h : BoxP W b k nm up sz tm tx kv) (x : ByteArray) : BoxP (W.setCell ⟨b, 5, none⟩ (.string x)) b k nm up sz tm x kv := by
  obtain ⟨hlt, hk⟩ := Array.getElem?_eq_some_iff.1 h
  show (W.heap.modify b _)[b]? = _
  rw [Array.getElem?_eq_getElem (by rw [Array.size_modify]; exact hlt), Array.getElem_modify_self, hk]
  rfl
theorem BoxP.below {W W' : World} {b C : Nat} {k : Int} {nm : ByteArray} {up sz tm : Int} {tx : ByteArray} {kv : Value} (h : BoxP W b k nm up sz tm tx kv) (hb : Below C W W') (hC : b < C) : BoxP W' b k nm up sz tm tx kv := (hb.block b hC).trans h
theorem BoxP.lt {W : World} {b : Nat} {k : Int} {nm : ByteArray} {up sz tm : Int} {tx : ByteArray} {kv : Value} (h : BoxP W b k nm up sz tm tx kv) : b < W.heap.size := (Array.getElem?_eq_some_iff.1 h).1

/-- Number by number into what the pointers lead to: none. -/
def TPost (A : Ads) (ok : Bool) (w : World) (e : Ending) (w' : World) : Prop := e = .returned (errT A ok).1 ∧ w' = w
theorem t_yes {A : Ads} {ok : Bool} {w : World} (h : ok = true) : TPost A ok w (.returned .nilIface) w := by subst h; exact ⟨rfl, rfl⟩
theorem t_no {A : Ads} {ok : Bool} {w : World} (h : ok = false) : TPost A ok w (.returned (.iface 207 (.pointer (some A.t)))) w := by subst h; exact ⟨rfl, rfl⟩
set_option maxHeartbeats 1000000 in
theorem readNums0 {A : Ads} (a : Option Addr) (n cap : Nat) (w : World) (hn : n ≤ 1000000) (hc0 : w.cell? ⟨0, 0, none⟩ = some (.iface 207 (.pointer (some A.t)))) :
    Calls Tryz.prog 87 #[.slice a n cap, .slice none 0 0] w (TPost A (n == 0) w) := by
  by_cases h : n = 0
  · subst h
    go_enter Tryz.func87, Tryz.ntmps87
    go_wp2
    refine wp_loop_rounds 1 ?_
    rw [rounds_succ]
    go_wp2
    go_ret
    exact t_yes rfl
  · have hb : ((n : Int) != 0) = true := by rw [bne_iff_ne]; omega
    have HN : Hid ((n == 0) = false) := by unfold Hid; rw [beq_eq_false_iff_ne]; exact h
    go_enter Tryz.func87, Tryz.ntmps87
    go_wp2
    go_ret
    exact t_no HN.out
/-- .. one number, into the time; two, into the size and the time. -/
def NumsPost (A : Ads) (b : Nat) (k : Int) (nm : ByteArray) (up : Int) (tx : ByteArray) (kv : Value) (r : Option (Int × Int)) (w : World) (e : Ending) (w' : World) : Prop :=
  ∃ sz' tm', e = .returned (errT A r.isSome).1 ∧ BoxP w' b k nm up sz' tm' tx kv ∧ (∀ z, r = some z → sz' = z.1 ∧ tm' = z.2) ∧ w.grownBy w' (some b)
set_option maxHeartbeats 1000000 in
theorem readNums1 {A : Ads} (b g off capf gi capi : Nat) (y : ByteArray) (k : Int) (nm : ByteArray) (up sz tm : Int) (tx : ByteArray) (kv : Value) (w : World) (hbox : BoxP w b k nm up sz tm tx kv) (hy : y.size ≤ 1000000)
    (hx : w.cell? ⟨g, off, none⟩ = some (.string y)) (hp : w.cell? ⟨gi, 0, none⟩ = some (.pointer (some ⟨b, 4, none⟩))) (hc0 : w.cell? ⟨0, 0, none⟩ = some (.iface 207 (.pointer (some A.t)))) :
    Calls Tryz.prog 87 #[.slice (some ⟨g, off, none⟩) 1 capf, .slice (some ⟨gi, 0, none⟩) 1 capi] w (NumsPost A b k nm up tx kv (if gB y then some (sz, nJ y) else none) w) := by
  obtain ⟨d0, d1, d2, d3, d4, d5, d6, df⟩ := hbox.cells
  have f4 := df 4
  have HBX := hide hbox
  clear df hbox
  have HNU := hide (number_any y w (by unfold maxLen; omega))
  cases hg : gB y
  · rw [hg] at HNU
    go_enter Tryz.func87, Tryz.ntmps87
    go_wp2
    refine wp_loop_rounds 2 ?_
    rw [rounds_succ]
    go_wp2_with (go_at_call 115; refine (unhide HNU).mono ?_; rintro e w' ⟨rfl, rfl⟩)
    go_ret
    exact ⟨sz, tm, rfl, unhide HBX, fun z hz => (by cases hz), ⟨rfl, rfl, rfl, Nat.le_refl _, fun _ _ _ => rfl⟩⟩
  · rw [hg, (gB_bd hg).2.2] at HNU
    go_enter Tryz.func87, Tryz.ntmps87
    go_wp2
    refine wp_loop_rounds 2 ?_
    rw [rounds_succ]
    go_wp2_with (go_at_call 115; refine (unhide HNU).mono ?_; rintro e w' ⟨rfl, rfl⟩)
    rw [rounds_succ]
    go_wp2
    go_ret
    exact ⟨sz, nJ y, rfl, (unhide HBX).set4 _, fun z hz => (by cases hz; exact ⟨rfl, rfl⟩), set_grown _ _ _ _⟩
def two? (ys : List ByteArray) : Option (Int × Int) := match ys with
  | [a, b] => if gB a && gB b then some (nJ a, nJ b) else none
  | _ => none
theorem two_pair (a b : ByteArray) : two? [a, b] = if gB a && gB b then some (nJ a, nJ b) else none := rfl
theorem two_no {ys : List ByteArray} (h : ys.length ≠ 2) : two? ys = none := by
  match ys, h with
  | [], _ => rfl
  | [_], _ => rfl
  | [_, _], h => exact absurd rfl h
  | _ :: _ :: _ :: _, _ => rfl
set_option maxHeartbeats 1000000 in
theorem readNums2 {A : Ads} (b g off capf gi capi : Nat) (ys : List ByteArray) (k : Int) (nm : ByteArray) (up sz tm : Int) (tx : ByteArray) (kv : Value) (w : World) (hbox : BoxP w b k nm up sz tm tx kv) (hy : ∀ y ∈ ys, y.size ≤ 1000000) (hyl : ys.length ≤ 1000000) (hgb : g ≠ b) (hib : gi ≠ b)
    (hx : ∀ (j : Nat) (x : ByteArray), ys[j]? = some x → w.cell? ⟨g, off + j, none⟩ = some (.string x)) (hp : w.cell? ⟨gi, 0, none⟩ = some (.pointer (some ⟨b, 3, none⟩))) (hp1 : w.cell? ⟨gi, 1, none⟩ = some (.pointer (some ⟨b, 4, none⟩))) (hc0 : w.cell? ⟨0, 0, none⟩ = some (.iface 207 (.pointer (some A.t)))) :
    Calls Tryz.prog 87 #[.slice (some ⟨g, off, none⟩) ys.length capf, .slice (some ⟨gi, 0, none⟩) 2 capi] w (NumsPost A b k nm up tx kv (two? ys) w) := by
  obtain ⟨d0, d1, d2, d3, d4, d5, d6, df⟩ := hbox.cells
  have f3 := df 3
  have f4 := df 4
  have HBX := hide hbox
  clear df hbox
  by_cases hn : ys.length = 2
  · obtain ⟨y0, y1, rfl⟩ : ∃ a b, ys = [a, b] := by
      match ys, hn with
      | [a, b], _ => exact ⟨a, b, rfl⟩
    have x0 : w.cell? ⟨g, off, none⟩ = some (.string y0) := hx 0 y0 rfl
    have x1 := hx 1 y1 rfl
    have z0 := hy y0 (by simp)
    have z1 := hy y1 (by simp)
    have HN0 := hide (number_any y0 w (by unfold maxLen; omega))
    have HN1 := hide (fun w => number_any y1 w (by unfold maxLen; omega))
    have hbg : ¬ b = g := fun e => hgb e.symm
    have hbi : ¬ b = gi := fun e => hib e.symm
    clear hx hy
    cases hg0 : gB y0
    · have HR : Hid (two? [y0, y1] = none) := by unfold Hid; rw [two_pair, hg0]; rfl
      rw [hg0] at HN0
      go_enter Tryz.func87, Tryz.ntmps87
      go_wp2
      refine wp_loop_rounds 3 ?_
      rw [rounds_succ]
      go_wp2_with (go_at_call 115; refine (unhide HN0).mono ?_; rintro e w' ⟨rfl, rfl⟩)
      go_ret
      rw [HR.out]
      exact ⟨sz, tm, rfl, unhide HBX, fun z hz => (by cases hz), ⟨rfl, rfl, rfl, Nat.le_refl _, fun _ _ _ => rfl⟩⟩
    · rw [hg0, (gB_bd hg0).2.2] at HN0
      cases hg1 : gB y1
      · have HR : Hid (two? [y0, y1] = none) := by unfold Hid; rw [two_pair, hg0, hg1]; rfl
        rw [hg1] at HN1
        go_enter Tryz.func87, Tryz.ntmps87
        go_wp2
        refine wp_loop_rounds 3 ?_
        rw [rounds_succ]
        go_wp2_with (go_at_call 115; refine (unhide HN0).mono ?_; rintro e w' ⟨rfl, rfl⟩)
        rw [rounds_succ]
        go_wp2_with (go_at_call 115; refine ((unhide HN1) _).mono ?_; rintro e w' ⟨rfl, rfl⟩)
        go_ret
        rw [HR.out]
        exact ⟨nJ y0, tm, rfl, (unhide HBX).set3 _, fun z hz => (by cases hz), set_grown _ _ _ _⟩
      · have HR : Hid (two? [y0, y1] = some (nJ y0, nJ y1)) := by unfold Hid; rw [two_pair, hg0, hg1]; rfl
        rw [hg1, (gB_bd hg1).2.2] at HN1
        go_enter Tryz.func87, Tryz.ntmps87
        go_wp2
        refine wp_loop_rounds 3 ?_
        rw [rounds_succ]
        go_wp2_with (go_at_call 115; refine (unhide HN0).mono ?_; rintro e w' ⟨rfl, rfl⟩)
        rw [rounds_succ]
        go_wp2_with (go_at_call 115; refine ((unhide HN1) _).mono ?_; rintro e w' ⟨rfl, rfl⟩)
        rw [rounds_succ]
        go_wp2
        go_ret
        rw [HR.out]
        exact ⟨nJ y0, nJ y1, rfl, ((unhide HBX).set3 _).set4 _, fun z hz => (by cases hz; exact ⟨rfl, rfl⟩), (set_grown _ _ _ _).trans (set_grown _ _ _ _)⟩
  · have hnn : ((ys.length : Int) != 2) = true := by rw [bne_iff_ne]; omega
    have HR := hide (two_no hn)
    clear hx hy
    go_enter Tryz.func87, Tryz.ntmps87
    go_wp2
    go_ret
    rw [HR.out]
    exact ⟨sz, tm, rfl, unhide HBX, fun z hz => (by cases hz), ⟨rfl, rfl, rfl, Nat.le_refl _, fun _ _ _ => rfl⟩⟩

/-! ### Builders -/
theorem copyCheck_any (B b : Nat) (bs : List Value) (w : World) (h : Lib.IsBuilder 65 5 B b bs w) :
    Calls Tryz.prog 56 #[.pointer (some ⟨b, 0, none⟩)] w fun e w' => e = .returned (.tuple #[]) ∧ (Lib.BuilderAt 65 5 B b (.pointer (some ⟨b, 0, none⟩)) bs w' ∧ Below B w w') :=
  Any.Builder_copyCheck ({ Tryz.lays156 with } : Lays.n240 Tryz.prog Tryz.lays156_ren) Tryz.Builder_Extra_156.toX72 B b bs w h
set_option maxHeartbeats 1000000 in
theorem writeByte_any (B b : Nat) (bs : List Value) (c : Int) (w : World) (h : Lib.IsBuilder 65 5 B b bs w) (hlen : bs.length + 1 ≤ 1000000) (hBw : B ≤ w.heap.size) :
    Calls Tryz.prog 29 #[.pointer (some ⟨b, 0, none⟩), .int .u8 c] w fun e w' => e = .returned .nilIface ∧ (Lib.BuilderAt 65 5 B b (.pointer (some ⟨b, 0, none⟩)) (bs ++ [.int .u8 c]) w' ∧ Below B w w') := by
  obtain ⟨i0, hi, hz0, hz1, hz2⟩ := info_parts Tryz.info5
  go_enter Tryz.func29, Tryz.ntmps29
  go_wp2_with fail
  refine (copyCheck_any B b bs _ h).mono ?_
  rintro e w1 ⟨rfl, h1, hb1⟩
  obtain ⟨hB, v, hbk, hown, hne⟩ := h1
  have c0 : w1.cell? ⟨b, 0, none⟩ = some (.pointer (some ⟨b, 0, none⟩)) := by rw [Lib.cell_of_heap hbk]; rfl
  have c1 : w1.cell? ⟨b, 1, none⟩ = some v := by rw [Lib.cell_of_heap hbk]; rfl
  go_wp2_with (at_builtin; refine wpList_append_own _ rfl _ _ 63 rfl B 5 i0 (.int .u8 0) 1 1 Tryz.underlying63 hi hz0 hz1 hz2 rfl (by decide) _ _ _ rfl (hown.alloc _) ⟨w1.heap.size, 0, none⟩ 1 1 [.int .u8 c] rfl rfl (cell_one_new _ _ _) (by simp [Value.oneCell']) (by unfold maxLen; omega) (by omega) (by have := hb1.size; simp; omega) ?_)
  intro v' w2 hown' hgrow _
  have hlt : b < w1.heap.size := (Array.getElem?_eq_some_iff.1 hbk).1
  have hb2 : w2.heap[b]? = some (.cells #[.pointer (some ⟨b, 0, none⟩), v] 65 (0, 0)) := by
    rw [hgrow.block b (by simp; omega) (fun e => hne e.symm), Lib.alloc_old w1 _ b hlt]
    exact hbk
  have d0 : w2.cell? ⟨b, 0, none⟩ = some (.pointer (some ⟨b, 0, none⟩)) := by rw [Lib.cell_of_heap hb2]; rfl
  have d1 : w2.cell? ⟨b, 1, none⟩ = some v := by rw [Lib.cell_of_heap hb2]; rfl
  have f1 : w2.frozen? ⟨b, 1, none⟩ = false := Lib.frozen_of_heap hb2 1
  obtain ⟨g, cap, rfl⟩ := ownsRow_succ hown'
  go_wp2
  go_ret
  refine ⟨rfl, ?_, ?_⟩
  · exact Lib.BuilderAt.put (T := 65) (e := 5) hB hb2 (bs' := bs ++ [.int .u8 c]) (by simpa using hown') (by decide)
  · exact ((hb1.alloc (by have := hb1.size; omega) _).grown hgrow (by have := hb1.size; simp; omega) (fun k hk => (hown.lt k hk).1)).setCell (p := ⟨b, 1, none⟩) hB _
end Go.Proofs.YtconbmfbokpklaaGreatDoor
