/- Merged: PrOut, Copy, LawPrints. -/
import Derived.Test.YtconbmfbokpklaaGreatDoorPC
import Derived.Laws.AppendOwnNone
import Derived.Test.YtconbmfbokpklaaGreatDoorSame
import Derived.Test.YtconbmfbokpklaaGreatDoorPut
import Derived.Deep.RegionHeldLaw
import Derived.Deep.AppendLies
import Derived.Test.YtconbmfbokpklaaGreatDoorGTree
import Derived.Test.YtconbmfbokpklaaGreatDoorPB
/- The program's Print. -/
namespace Go.Proofs.YtconbmfbokpklaaGreatDoor
open Go.RowKit

theorem isBuilder_below {B b : Nat} {bs : List Value} {w w' : World} (h : Lib.IsBuilder 65 5 B b bs w) (hb : Below w.heap.size w w') : Lib.IsBuilder 65 5 B b bs w' := by
  rcases h with ⟨hB, v, hk, ho, hn⟩ | ⟨hB, v, hk, ho, hn⟩
  · exact .inl ⟨hB, v, (hb.block b (Array.getElem?_eq_some_iff.1 hk).1).trans hk, owns_below' ho hb, hn⟩
  · exact .inr ⟨hB, v, (hb.block b (Array.getElem?_eq_some_iff.1 hk).1).trans hk, owns_below' ho hb, hn⟩
set_option maxHeartbeats 1000000 in
theorem writeByteP_any (B b : Nat) (bs : List Value) (c : Int) (w : World) (h : Lib.IsBuilder 65 5 B b bs w) (hlen : bs.length + 1 ≤ 1000000000) (hBw : B ≤ w.heap.size) :
    Calls Tryz.prog 29 #[.pointer (some ⟨b, 0, none⟩), .int .u8 c] w fun e w' => e = .returned .nilIface ∧ (Lib.BuilderAt 65 5 B b (.pointer (some ⟨b, 0, none⟩)) (bs ++ [.int .u8 c]) w' ∧ Below B w w') := by
  obtain ⟨i0, hi, hz0, hz1, hz2⟩ := info_parts Tryz.info5
  go_enter Tryz.func29, Tryz.ntmps29
  go_wp2_with fail
  refine (copyCheck_any B b bs _ h).mono ?_
  rintro e w1 ⟨rfl, h1, hb1⟩
  obtain ⟨hB, v, hbk, hown, hne⟩ := h1
  have c0 : w1.cell? ⟨b, 0, none⟩ = some (.pointer (some ⟨b, 0, none⟩)) := by rw [Lib.cell_of_heap hbk]; rfl
  have c1 : w1.cell? ⟨b, 1, none⟩ = some v := by rw [Lib.cell_of_heap hbk]; rfl
  go_wp2_with (at_builtin; refine wpList_append_own _ rfl _ _ 63 rfl B 5 i0 (.int .u8 0) 1 1 Tryz.underlying63 hi hz0 hz1 hz2 rfl (by decide) _ _ _ rfl (hown.alloc _) ⟨w1.heap.size, 0, none⟩ 1 1 [.int .u8 c] rfl rfl (cell_one_new _ _ _) (by simp [Value.oneCell']) (by unfold maxLen; omega) (by omega) (by have := hb1.size; simp; omega) ?_)
  intro v' w2 hown' hgrow _
  have hlt : b < w1.heap.size := (Array.getElem?_eq_some_iff.1 hbk).1
  have hb2 : w2.heap[b]? = some (.cells #[.pointer (some ⟨b, 0, none⟩), v] 65 (0, 0)) := by
    rw [hgrow.block b (by simp; omega) (fun e => hne e.symm), Lib.alloc_old w1 _ b hlt]
    exact hbk
  have d0 : w2.cell? ⟨b, 0, none⟩ = some (.pointer (some ⟨b, 0, none⟩)) := by rw [Lib.cell_of_heap hb2]; rfl
  have d1 : w2.cell? ⟨b, 1, none⟩ = some v := by rw [Lib.cell_of_heap hb2]; rfl
  have f1 : w2.frozen? ⟨b, 1, none⟩ = false := Lib.frozen_of_heap hb2 1
  obtain ⟨g, cap, rfl⟩ := ownsRow_succ hown'
  go_wp2
  go_ret
  refine ⟨rfl, ?_, ?_⟩
  · exact Lib.BuilderAt.put (T := 65) (e := 5) hB hb2 (bs' := bs ++ [.int .u8 c]) (by simpa using hown') (by decide)
  · exact ((hb1.alloc (by have := hb1.size; omega) _).grown hgrow (by have := hb1.size; simp; omega) (fun k hk => (hown.lt k hk).1)).setCell (p := ⟨b, 1, none⟩) hB _
theorem writeString_any (B b : Nat) (xs : List UInt8) (s : ByteArray) (w : World) (h : Lib.IsBuilder 65 5 B b (Lib.byteCells xs) w) (hlen : xs.length + s.size ≤ 1000000000) (hBw : B ≤ w.heap.size) :
    Calls Tryz.prog 27 #[.pointer (some ⟨b, 0, none⟩), .string s] w fun e w' => e = .returned (.tuple #[.int .i64 s.size, .nilIface]) ∧ Lib.IsBuilder 65 5 B b (Lib.byteCells (xs ++ s.data.toList)) w' ∧ Below B w w' := by
  refine (Any.Builder_WriteString ({ Tryz.lays156 with } : Lays.n166 Tryz.prog Tryz.lays156_ren) Tryz.Builder_Extra_156 B b (Lib.byteCells xs) s w h (by rw [bytes_cells]; simp [u8s]; omega) hBw).mono ?_
  rintro e w' ⟨rfl, h1, h2⟩
  refine ⟨rfl, .inr ?_, h2⟩
  have e : Lib.byteCells (xs ++ s.data.toList) = Lib.byteCells xs ++ Lib.strCells s := by
    rw [bytes_cells, bytes_cells]
    simp [u8s, Lib.strCells]
  rw [e]
  exact h1
theorem join_row {B : Nat} {W : World} {v : Value} {ys : List ByteArray} (h : W.ownsRow B 9 1 v ys.length (ys.map Value.string)) (hne : 0 < ys.length) (hl : ys.length ≤ 1000) (hj : (Lib.join (ys.map (·.data.toList)) [9]).length ≤ 1000000000) :
    Calls Tryz.prog 28 #[v, .string ⟨#[9]⟩] W fun e w' => e = .returned (.string (bs (Lib.join (ys.map (·.data.toList)) [9]))) ∧ Below W.heap.size W w' := by
  obtain ⟨g, cap, rfl, hcap⟩ : ∃ g cap, v = .slice (some ⟨g, 0, none⟩) ys.length cap ∧ ys.length ≤ cap := by
    rcases h.2 with ⟨_, e⟩ | ⟨g, cap, cur, e, _, _, hn, _⟩
    · omega
    · exact ⟨g, cap, e, hn⟩
  exact Tryz.strings_Join g 0 cap ys ⟨#[9]⟩ W (fun j x hx => by rw [Nat.zero_add]; exact row_cell1 h hx) (h.lt g rfl).2 (by omega) hcap (Nat.le_trans hj (by omega))
theorem line_ys {n : NodeD} {way gg : ByteArray} (hg : gg = bs (signL n)) : Lib.join ((gg :: way :: (fldsL n).map bs).map (·.data.toList)) [9] = lineL n way.data.toList := by
  have e : (gg :: way :: (fldsL n).map bs).map (·.data.toList) = signL n :: way.data.toList :: fldsL n := by
    rw [hg, List.map_cons, List.map_cons, List.map_map, data_bs]
    congr 2
    conv => rhs; rw [← List.map_id (fldsL n)]
    rfl
  rw [e]
  rfl
set_option maxRecDepth 100000 in
set_option maxHeartbeats 4000000 in
theorem print_any (C : Nat) (v : Value) (L : List NodeD) (K : List ByteArray) (w : World) (hok : PrOk L K) (hrow : NodeRow C w v L) (hC : C ≤ w.heap.size) (hp : Pow w) (h7 : 7 < C) :
    Calls Tryz.prog 12 #[v] w fun e w' => e = .returned (.string (bs (printD L K))) ∧ Below w.heap.size w w' := by
  obtain ⟨i0, hi, hz0, hz1, hz2⟩ := info_parts Tryz.info9
  obtain ⟨a, cap, rfl⟩ := hrow.form
  have hlen := hok.len
  have HROW := hide hrow
  have HOK := hide hok
  have HP := hide hp
  clear hrow hok hp
  go_enter Tryz.func12, Tryz.ntmps12
  go_wp2
  obtain ⟨W0, hW0⟩ : ∃ W0, w.alloc (.cells #[.pointer none, .slice none 0 0] 65) = W0 := ⟨_, rfl⟩
  rw [hW0]
  have hbd0 : Lib.IsBuilder 65 5 w.heap.size w.heap.size [] W0 := by rw [← hW0]; exact builder_new w
  have hbl0 : Below w.heap.size w W0 := by rw [← hW0]; exact (Below.refl _ _).alloc (Nat.le_refl _) _
  clear hW0
  go_loopw [11] (fun iv wr => ∃ k : Nat, k ≤ L.length ∧ iv = .int .i64 k ∧ Lib.IsBuilder 65 5 w.heap.size w.heap.size (Lib.byteCells (printL ((pairsL L K).take (k - 1)))) wr ∧ Below w.heap.size w wr) (fun iv _ => L.length - (intOf iv).toNat)
  case atStart => exact ⟨0, Nat.zero_le _, rfl, hbd0, hbl0⟩
  case round =>
    obtain ⟨k, hk, rfl, hbd, hbr⟩ := hrel
    have hBs := hbr.size
    clear hbd0 hbl0
    by_cases hlt : k < L.length
    · obtain ⟨x, hx⟩ : ∃ x, L[k]? = some x := ⟨_, List.getElem?_eq_getElem hlt⟩
      obtain ⟨ga, ka, km, kc, rfl, hga, hca, ⟨p0, p1, p2, p3, p4, p5, p6⟩, _⟩ := (HROW.out.below (hbr.mono hC)).at hx
      have hkI : (k : Int) < (L.length : Int) := by omega
      obtain ⟨W1, hW1⟩ : ∃ W1, wr.alloc (.cells #[.int .u8 x.kind, .string x.name, .int .i64 x.up, .int .i64 x.size, .int .i64 x.time, .string x.text, .slice ka km kc] 33) = W1 := ⟨_, rfl⟩
      have hb1 : Below wr.heap.size wr W1 := by rw [← hW1]; exact (Below.refl _ _).alloc (Nat.le_refl _) _
      have hbx : W1.heap[wr.heap.size]? = some (.cells #[.int .u8 x.kind, .string x.name, .int .i64 x.up, .int .i64 x.size, .int .i64 x.time, .string x.text, .slice ka km kc] 33) := by rw [← hW1]; exact World.alloc_heap_new _ _
      obtain ⟨b0, b1, b2, b3, b4, b5, b6⟩ := box7 hbx
      have HBD1 := hide (isBuilder_below hbd hb1)
      have HB1 := hide (hbr.trans (hb1.mono hBs))
      have HW1 := hide hW1
      by_cases hk0 : k = 0
      · subst hk0
        clear hbd hbr hb1 hbx hW1 hx b0 b1 b2 b3 b4 b5 b6
        go_wp2
        rw [HW1.out]
        go_roundw
        case rel => exact ⟨1, by omega, rfl, HBD1.out, HB1.out⟩
        case measure => simp [intOf]; omega
      · obtain ⟨way, hway⟩ : ∃ way, K[k]? = some way := ⟨_, List.getElem?_eq_getElem (by rw [HOK.out.path.len]; exact hlt)⟩
        have hfld := HOK.out.fld k x (by omega) hx
        have htx := HOK.out.text k x hx
        have hwz := HOK.out.way k way hway
        have hll := line_len hfld htx hwz
        have hpl := print_len HOK.out (k - 1) (by omega)
        have HSTEP := hide (print_step (by omega) hx hway)
        have hkb : ((k : Int) == 0) = false := by rw [beq_eq_false_iff_ne]; omega
        have HF := hide (fields_any' C x ka km kc W1 hfld htx (HP.out.below HB1.out (by omega)) (Nat.le_trans hC HB1.out.size) h7)
        have HWY : ∀ W, Hid (Below w.heap.size w W → Calls Tryz.prog 13 #[.slice (some ⟨ga, 0, none⟩) L.length cap, .int .i64 (k : Int)] W fun e w' => e = .returned (.string way) ∧ Below W.heap.size W w') := fun W hb => way_any C _ L K k way W HOK.out.path hlen (by omega) hlt hway (by omega) (HROW.out.below (hb.mono hC)) (Nat.le_trans hC hb.size)
        clear hbd hbr hb1 hbx hW1 hx hway hfld htx
        go_wp2_with fail
        rw [HW1.out]
        refine (unhide HF).mono ?_
        rintro e w2 ⟨v1, rfl, hown2, hb2⟩
        have HBD2 := hide (isBuilder_below HBD1.out hb2)
        have HB2 := hide (HB1.out.trans (hb2.mono HB1.out.size))
        have HOWN2 := hide hown2
        obtain ⟨gg, hgg⟩ : ∃ gg, gg = bs (signL x) := ⟨_, rfl⟩
        rw [← hgg]
        have HGG := hide hgg
        clear hb2 hown2 hgg b0 b1 b2 b3 b4 b5 b6
        go_wp2_with fail
        refine ((unhide (HWY w2)) HB2.out).mono ?_
        rintro e w3 ⟨rfl, hb3⟩
        have HB3 := hide (HB2.out.trans (hb3.mono HB2.out.size))
        have HBD3 := hide (isBuilder_below HBD2.out hb3)
        have hown3 := owns_below' HOWN2.out hb3
        have hlit : (w3.alloc (.cells #[.string gg, .string way] 9)).ownsRow w3.heap.size 9 1 (.slice (some ⟨w3.heap.size, 0, none⟩) 2 2) 2 [.string gg, .string way] := World.ownsRow_lit w3 #[.string gg, .string way] 2 (Nat.le_refl _) (by decide) rfl
        have hal : Below w3.heap.size w3 (w3.alloc (.cells #[.string gg, .string way] 9)) := (Below.refl _ _).alloc (Nat.le_refl _) _
        have hfc := flds_cnt x
        clear hb3
        rcases hown3.2 with ⟨rfl, hz⟩ | ⟨g1, cap1, cur1, rfl, _, _, _⟩
        · have HL0 := hide (List.eq_nil_of_length_eq_zero hz)
          clear hown3 hz
          go_wp2_with (at_builtin; refine wpList_append_own_none rfl _ _ 55 rfl w3.heap.size 9 i0 1 Tryz.underlying55 hi _ _ _ rfl hlit rfl ?_)
          obtain ⟨w4, hw4⟩ : ∃ w4, w3.alloc (.cells #[.string gg, .string way] 9) = w4 := ⟨_, rfl⟩
          rw [hw4]
          have hb4 : Below w3.heap.size w3 w4 := by rw [← hw4]; exact hal
          have hown4 : w4.ownsRow w3.heap.size 9 1 (.slice (some ⟨w3.heap.size, 0, none⟩) 2 2) (gg :: way :: (fldsL x).map bs).length ((gg :: way :: (fldsL x).map bs).map Value.string) := by rw [← hw4, HL0.out]; exact hlit
          clear hw4 hlit hal
          have hgw : Below w.heap.size w w4 := HB3.out.trans (hb4.mono HB3.out.size)
          have HJ : Hid (Calls Tryz.prog 28 #[.slice (some ⟨w3.heap.size, 0, none⟩) 2 2, .string ⟨#[9]⟩] w4 fun e w' => e = .returned (.string (bs (lineL x way.data.toList))) ∧ Below w4.heap.size w4 w') := by
            have h := join_row hown4 (by simp) (by have := flds_cnt x; simp; omega) (by rw [line_ys HGG.out]; omega)
            rw [line_ys HGG.out] at h
            exact h
          have HBD4 := hide (isBuilder_below HBD3.out hb4)
          have HB4 := hide hgw
          clear hown4 hb4 hgw
          go_wp2_with fail
          refine (unhide HJ).mono ?_
          rintro e w5 ⟨rfl, hb5⟩
          obtain ⟨ll, hllq⟩ : ∃ ll, ll = bs (lineL x way.data.toList) := ⟨_, rfl⟩
          rw [← hllq]
          have hlls : ll.size ≤ 160004 := by rw [hllq, ← len_data, data_bs]; exact hll
          have HLL := hide hllq
          have HBD5 := hide (isBuilder_below HBD4.out hb5)
          have HB5 := hide (HB4.out.trans (hb5.mono HB4.out.size))
          clear hllq hb5
          have HWS := hide (writeString_any w.heap.size w.heap.size _ ll w5 HBD5.out (by have : 160005 * (k - 1) ≤ 160005 * 200 := Nat.mul_le_mul_left _ (by omega); omega) HB5.out.size)
          go_wp2_with fail
          refine (unhide HWS).mono ?_
          rintro e w6 ⟨rfl, hbd6, hb6⟩
          have HB6 := hide (HB5.out.trans hb6)
          have HWB := hide (writeByteP_any w.heap.size w.heap.size _ 10 w6 hbd6 (by rw [bytes_cells]; simp only [u8s, List.length_map, List.length_append, len_data]; have : 160005 * (k - 1) ≤ 160005 * 200 := Nat.mul_le_mul_left _ (by omega); omega) HB6.out.size)
          clear hbd6 hb6
          go_wp2_with fail
          refine (unhide HWB).mono ?_
          rintro e w7 ⟨rfl, hbd7, hb7⟩
          have HB7 := hide (HB6.out.trans hb7)
          have HBD7 : Hid (Lib.IsBuilder 65 5 w.heap.size w.heap.size (Lib.byteCells (printL ((pairsL L K).take k))) w7) := by
            have h := cells_push (c := 10) hbd7
            unfold Hid
            rw [HSTEP.out]
            rw [HLL.out, data_bs, List.append_assoc] at h
            exact h
          clear hbd7 hb7
          go_wp2
          go_roundw
          case rel => exact ⟨k + 1, by omega, by go_num, by rw [show k + 1 - 1 = k from by omega]; exact HBD7.out, HB7.out⟩
          case measure => simp [intOf]; omega
        · go_wp2_with (at_builtin; refine wpList_append_own _ rfl _ _ 55 rfl w3.heap.size 9 i0 (.string ⟨#[]⟩) 1 16 Tryz.underlying55 hi hz0 hz1 hz2 rfl (by decide) _ _ _ rfl hlit ⟨g1, 0, none⟩ (fldsL x).length cap1 ((fldsL x).map (fun x => Value.string (bs x))) rfl (by simp) (fun j u hu => by rw [addr_add]; exact ((owns_below' hown3 hal).cellAt j (by have := (List.getElem?_eq_some_iff.1 hu).1; simpa using this)).trans hu) (by simp [Value.oneCell']) (by unfold maxLen; omega) (by omega) (by simp) ?_; intro v' w4 hown4' hgrow _)
          have hb4 : Below w3.heap.size w3 w4 := hal.grown hgrow (by simp) (fun j e => by cases e; exact Nat.le_refl _)
          have hown4 : w4.ownsRow w3.heap.size 9 1 v' (gg :: way :: (fldsL x).map bs).length ((gg :: way :: (fldsL x).map bs).map Value.string) := by
            have e1 : (gg :: way :: (fldsL x).map bs).length = 2 + (fldsL x).length := by simp; omega
            have e2 : (gg :: way :: (fldsL x).map bs).map Value.string = [Value.string gg, .string way] ++ (fldsL x).map (fun x => Value.string (bs x)) := by simp
            rw [e1, e2]
            exact hown4'
          clear hown4' hgrow hlit hal hown3
          have hgw : Below w.heap.size w w4 := HB3.out.trans (hb4.mono HB3.out.size)
          have HJ : Hid (Calls Tryz.prog 28 #[v', .string ⟨#[9]⟩] w4 fun e w' => e = .returned (.string (bs (lineL x way.data.toList))) ∧ Below w4.heap.size w4 w') := by
            have h := join_row hown4 (by simp) (by have := flds_cnt x; simp; omega) (by rw [line_ys HGG.out]; omega)
            rw [line_ys HGG.out] at h
            exact h
          have HBD4 := hide (isBuilder_below HBD3.out hb4)
          have HB4 := hide hgw
          clear hown4 hb4 hgw
          go_wp2_with fail
          refine (unhide HJ).mono ?_
          rintro e w5 ⟨rfl, hb5⟩
          obtain ⟨ll, hllq⟩ : ∃ ll, ll = bs (lineL x way.data.toList) := ⟨_, rfl⟩
          rw [← hllq]
          have hlls : ll.size ≤ 160004 := by rw [hllq, ← len_data, data_bs]; exact hll
          have HLL := hide hllq
          have HBD5 := hide (isBuilder_below HBD4.out hb5)
          have HB5 := hide (HB4.out.trans (hb5.mono HB4.out.size))
          clear hllq hb5
          have HWS := hide (writeString_any w.heap.size w.heap.size _ ll w5 HBD5.out (by have : 160005 * (k - 1) ≤ 160005 * 200 := Nat.mul_le_mul_left _ (by omega); omega) HB5.out.size)
          go_wp2_with fail
          refine (unhide HWS).mono ?_
          rintro e w6 ⟨rfl, hbd6, hb6⟩
          have HB6 := hide (HB5.out.trans hb6)
          have HWB := hide (writeByteP_any w.heap.size w.heap.size _ 10 w6 hbd6 (by rw [bytes_cells]; simp only [u8s, List.length_map, List.length_append, len_data]; have : 160005 * (k - 1) ≤ 160005 * 200 := Nat.mul_le_mul_left _ (by omega); omega) HB6.out.size)
          clear hbd6 hb6
          go_wp2_with fail
          refine (unhide HWB).mono ?_
          rintro e w7 ⟨rfl, hbd7, hb7⟩
          have HB7 := hide (HB6.out.trans hb7)
          have HBD7 : Hid (Lib.IsBuilder 65 5 w.heap.size w.heap.size (Lib.byteCells (printL ((pairsL L K).take k))) w7) := by
            have h := cells_push (c := 10) hbd7
            unfold Hid
            rw [HSTEP.out]
            rw [HLL.out, data_bs, List.append_assoc] at h
            exact h
          clear hbd7 hb7
          go_wp2
          go_roundw
          case rel => exact ⟨k + 1, by omega, by go_num, by rw [show k + 1 - 1 = k from by omega]; exact HBD7.out, HB7.out⟩
          case measure => simp [intOf]; omega
    · obtain rfl : k = L.length := by omega
      have HX := hide (print_all HOK.out.path.len)
      have HBD := hide hbd
      clear hbd
      go_wp2_with fail
      refine (Tryz.Builder_String_any w.heap.size w.heap.size _ _ (unhide HBD) hBs).mono ?_
      rintro e w2 ⟨rfl, hb2⟩
      have HB2 := hide (hbr.trans hb2)
      clear hb2
      go_wp2
      go_ret
      exact ⟨by rw [← HX.out]; rfl, HB2.out⟩
end Go.Proofs.YtconbmfbokpklaaGreatDoor
/- The law's own copy of the nodes. -/
namespace Go.Proofs.YtconbmfbokpklaaGreatDoor
open Go.RowKit
def Six (g i : Nat) (x : NodeD) (W : World) : Prop :=
  W.cell? ⟨g, i * 7, none⟩ = some (.int .u8 x.kind) ∧ W.cell? ⟨g, i * 7 + 1, none⟩ = some (.string x.name) ∧ W.cell? ⟨g, i * 7 + 2, none⟩ = some (.int .i64 x.up) ∧
  W.cell? ⟨g, i * 7 + 3, none⟩ = some (.int .i64 x.size) ∧ W.cell? ⟨g, i * 7 + 4, none⟩ = some (.int .i64 x.time) ∧ W.cell? ⟨g, i * 7 + 5, none⟩ = some (.string x.text)
set_option maxRecDepth 100000 in
set_option maxHeartbeats 2000000 in
theorem nodes_any (C : Nat) (v : Value) (L : List NodeD) (w : World) (hl : L.length ≤ 201) (hk : ∀ (i : Nat) (n : NodeD), L[i]? = some n → n.kids.length ≤ 1000) (hv : NodeRow C w v L) (hC : C ≤ w.heap.size)  :
    Calls Tryz.prog 11 #[v] w fun e w' => ∃ v' l, e = .returned v' ∧ Owned 33 w.heap.size w' v' l ∧ l.map (·.1) = L ∧ Below w.heap.size w w' := by
  obtain ⟨i0, hi, hz0, hz1, hz2⟩ := info_parts Tryz.info33
  obtain ⟨a, ca, rfl⟩ := hv.form
  have HV := hide hv
  have HK := hide hk
  clear hv hk
  go_enter Tryz.func11, Tryz.ntmps11
  go_wp2
  go_loopw [3, 4] (fun mv iv wr => ∃ (k : Nat) (l : List (NodeD × Value)), k ≤ L.length ∧ iv = .int .i64 k ∧ l.length = k ∧ l.map (·.1) = L.take k ∧ Owned 33 w.heap.size wr mv l ∧ Below w.heap.size w wr) (fun _ iv _ => L.length - (intOf iv).toNat)
  case atStart => exact ⟨0, [], Nat.zero_le _, rfl, rfl, by simp, ⟨World.ownsRow_nil _ _ _ _, fun p hp => by simp at hp⟩, Below.refl _ _⟩
  case round =>
    obtain ⟨k, l, hk, rfl, hlk, hmap, hown, hbl⟩ := hrel
    by_cases hlt : k < L.length
    · obtain ⟨x, hx⟩ : ∃ x, L[k]? = some x := ⟨_, List.getElem?_eq_getElem hlt⟩
      have hkx := unhide HK k x hx
      obtain ⟨ga, ka, km, kc, rfl, hga, hca, ⟨p0, p1, p2, p3, p4, p5, p6⟩, hra⟩ := ((unhide HV).below (hbl.mono hC)).at hx
      have HA := hide hra
      have HX := hide hx
      have HMAP := hide hmap
      have HO := hide hown
      have hsz := hbl.size
      clear hra hx hmap hown
      go_wp2_with (at_builtin; refine wpList_append_ints rfl (.tmp 12) (.tmp 17) rfl wr.heap.size C _ _ [] x.kids rfl (World.ownsRow_nil _ _ _ _) rfl (unhide HA) (by simp; omega) (Nat.le_refl _) ?_; intro v1 w1 hown1 hg1; simp only [List.nil_append] at hown1; have hb1 : Below wr.heap.size wr w1 := (Below.refl _ _).grown hg1 (Nat.le_refl _) (fun k e => by cases e); have hz1' := hb1.size)
      clear hg1
      have hgw : ga < wr.heap.size := by omega
      have c0 := (hb1.cell (p := ⟨ga, k * 7, none⟩) hgw).trans p0
      have c1 := (hb1.cell (p := ⟨ga, k * 7 + 1, none⟩) hgw).trans p1
      have c2 := (hb1.cell (p := ⟨ga, k * 7 + 2, none⟩) hgw).trans p2
      have c3 := (hb1.cell (p := ⟨ga, k * 7 + 3, none⟩) hgw).trans p3
      have c4 := (hb1.cell (p := ⟨ga, k * 7 + 4, none⟩) hgw).trans p4
      have c5 := (hb1.cell (p := ⟨ga, k * 7 + 5, none⟩) hgw).trans p5
      clear p0 p1 p2 p3 p4 p5 p6
      obtain ⟨k1, kc1, rfl, _⟩ := (IntRow.of_owns hown1).form
      have HO1 := hide ((unhide HO).below hb1)
      have HKI := hide hown1
      clear hown1 HO HA
      have hkl : (k : Int) < (L.length : Int) := by omega
      have hne : some ga ≠ u3.ownBlock := fun e => by have := ((unhide HO1).1.lt ga e.symm).1; omega
      have HFAR : Hid (∀ (o : Obj) (w2 : World) (j : Nat) (z : Value), (w1.alloc o).drew.grownBy w2 u3.ownBlock → w1.cell? ⟨ga, j, none⟩ = some z → w2.cell? ⟨ga, j, none⟩ = some z) := by
        intro o w2 j z hg hz
        have h1 : ((w1.alloc o).drew).cell? ⟨ga, j, none⟩ = some z := ((Below.refl w1.heap.size w1).alloc (Nat.le_refl _) o |>.cell (p := ⟨ga, j, none⟩) (by show ga < _; omega)).trans hz
        exact (hg.cell_far ⟨ga, j, none⟩ (by show ga < ((w1.alloc o)).heap.size; simp; omega) hne).trans h1
      have HW : Hid (∀ (o : Obj), (w1.alloc o).drew.ownsRow w.heap.size 33 7 u3 l.length (cellsL l)) := fun o => (unhide HO1).1.alloc o
      have HN : Hid (∀ (j : Nat) (u : Value), [Value.int .u8 x.kind, .string x.name, .int .i64 x.up, .int .i64 x.size, .int .i64 x.time, .string x.text, .slice k1 x.kids.length kc1][j]? = some u → ((w1.alloc (.cells #[.int .u8 x.kind, .string x.name, .int .i64 x.up, .int .i64 x.size, .int .i64 x.time, .string x.text, .slice k1 x.kids.length kc1] 33)).drew).cell? ((⟨w1.heap.size, 0, none⟩ : Addr).add j) = some u) := World.news_of_block (cs := #[.int .u8 x.kind, .string x.name, .int .i64 x.up, .int .i64 x.size, .int .i64 x.time, .string x.text, .slice k1 x.kids.length kc1]) (World.alloc_heap_new w1 _)
      have hwz : w.heap.size ≤ w1.heap.size := by omega
      clear hne
      go_region_held_law (fun w' => w'.cell? ⟨ga, k * 7, none⟩ = some (.int .u8 x.kind) ∧ w'.cell? ⟨ga, k * 7 + 1, none⟩ = some (.string x.name) ∧ w'.cell? ⟨ga, k * 7 + 2, none⟩ = some (.int .i64 x.up) ∧ w'.cell? ⟨ga, k * 7 + 3, none⟩ = some (.int .i64 x.size) ∧ w'.cell? ⟨ga, k * 7 + 4, none⟩ = some (.int .i64 x.time) ∧ w'.cell? ⟨ga, k * 7 + 5, none⟩ = some (.string x.text)) (go_keep) ((refine step_append_lies _ rfl (.tmp 19) (.tmp 52) 22 rfl w.heap.size 33 i0 _ 7 88 Tryz.underlying22 hi hz0 hz1 hz2 rfl (by decide) u3 l.length (cellsL l) rfl (unhide HW _) ⟨w1.heap.size, 0, none⟩ 1 1 [Value.int .u8 x.kind, .string x.name, .int .i64 x.up, .int .i64 x.size, .int .i64 x.time, .string x.text, .slice k1 x.kids.length kc1] rfl rfl (unhide HN) (by simp [Value.oneCell']) (by decide) (by unfold maxLen; omega) (by omega) (by show _ ≤ (w1.alloc _).heap.size; simp; omega) _ rfl ?_; intro g cap w2 hown2 hg2 hat2 hlt2; have e0 := unhide HFAR _ _ _ _ hg2 c0; have e1 := unhide HFAR _ _ _ _ hg2 c1; have e2 := unhide HFAR _ _ _ _ hg2 c2; have e3 := unhide HFAR _ _ _ _ hg2 c3; have e4 := unhide HFAR _ _ _ _ hg2 c4; have e5 := unhide HFAR _ _ _ _ hg2 c5))
      go_wp2
      have hbA : Below w.heap.size w ((w1.alloc (.cells #[.int .u8 x.kind, .string x.name, .int .i64 x.up, .int .i64 x.size, .int .i64 x.time, .string x.text, .slice k1 x.kids.length kc1] 33)).drew) := below_drewN ((hbl.trans (hb1.mono hsz)).alloc hwz _) 1
      have hbB : Below w.heap.size w w2 := hbA.grown hg2 hbA.size (fun j e => ((unhide HO1).1.lt j e).1)
      have kept : ∀ (B : Nat) (kv : Value) (ks : List Nat), w1.ownsRow B 3 1 kv ks.length (ints ks) → w2.ownsRow B 3 1 kv ks.length (ints ks) := fun B kv ks h => own_keep (W := (w1.alloc (.cells #[.int .u8 x.kind, .string x.name, .int .i64 x.up, .int .i64 x.size, .int .i64 x.time, .string x.text, .slice k1 x.kids.length kc1] 33)).drew) (show World.ownsRow _ _ _ _ _ _ _ from h.alloc _) (unhide HW _) (by decide) hg2
      have hmapx : (l ++ [(x, Value.slice k1 x.kids.length kc1)]).map (·.1) = L.take (k + 1) := by
        rw [List.map_append, unhide HMAP, List.take_succ_eq_append_getElem hlt, (List.getElem?_eq_some_iff.1 (unhide HX)).2]; rfl
      go_roundw
      case rel =>
        refine ⟨k + 1, l ++ [(x, .slice k1 x.kids.length kc1)], by omega, by go_num, by simp [hlk], hmapx, ⟨?_, ?_⟩, hbB⟩
        · rw [cellsL_snoc, List.length_append, hlk]
          rw [hlk] at hown2
          exact hown2
        · intro p hp
          rw [List.mem_append] at hp
          rcases hp with hp | hp
          · exact kept _ _ _ ((unhide HO1).2 p hp)
          · simp only [List.mem_singleton] at hp
            subst hp
            exact kept _ _ _ (owns_base' hsz (unhide HKI))
      case measure => simp [intOf]; omega
    · obtain rfl : k = L.length := by omega
      go_wp2
      go_ret
      exact ⟨_, l, rfl, hown, by rw [hmap, List.take_length], hbl⟩
end Go.Proofs.YtconbmfbokpklaaGreatDoor
/- The walk of TreePrints. -/
namespace Go.Proofs.YtconbmfbokpklaaGreatDoor
open Go.RowKit Go.Maps

theorem fld_srt {R L : List NodeD} (hs : Srt R L) {i : Nat} {n : NodeD} (hn : L[i]? = some n) : ∃ m, R[i]? = some m ∧ fldOf m = fldOf n := by
  obtain ⟨m, hm, e, _⟩ := hs.back hn
  exact ⟨m, hm, by rw [e]; rfl⟩
theorem line_same {n m : NodeD} (h : fldOf n = fldOf m) (w : List UInt8) : lineL n w = lineL m w := by
  cases n
  cases m
  simp only [fldOf, Prod.mk.injEq] at h
  obtain ⟨rfl, rfl, rfl, rfl⟩ := h
  rfl
theorem print_same {R L : List NodeD} (hs : Srt R L) (K : List ByteArray) : printD L K = printD R K := by
  unfold printD printL
  rw [List.flatMap_def, List.flatMap_def]
  congr 1
  apply List.ext_getElem?
  intro i
  rw [List.getElem?_map, List.getElem?_map, List.getElem?_drop, List.getElem?_drop]
  cases e : (L.zip K)[1 + i]? with
  | none =>
    have : (R.zip K)[1 + i]? = none := by
      rw [List.getElem?_eq_none_iff] at e ⊢
      rw [List.length_zip] at e ⊢
      rw [hs.len] at e
      exact e
    rw [this]
  | some p =>
    obtain ⟨n, k⟩ := p
    rw [List.getElem?_zip_eq_some] at e
    obtain ⟨m, hm, hf⟩ := fld_srt hs e.1
    have : (R.zip K)[1 + i]? = some (m, k) := by rw [List.getElem?_zip_eq_some]; exact ⟨hm, e.2⟩
    rw [this]
    show some (lineL n k.data.toList ++ [10]) = some (lineL m k.data.toList ++ [10])
    rw [line_same hf]
theorem prok_of {R L : List NodeD} {K : List ByteArray} (h : Prints R K) (hs : Srt R L) : PrOk L K := by
  have hp := path_of h.inv hs
  refine ⟨hp, by rw [hs.len]; exact h.inv.lim, fun i n hi hn => ?_, fun i n hn => ?_, fun i w hw => ?_⟩
  · obtain ⟨m, hm, e⟩ := fld_srt hs hn
    rw [← e]
    exact h.fld i m hi hm
  · obtain ⟨m, hm, e⟩ := fld_srt hs hn
    have : n.text = m.text := (congrArg (·.2.2.2) e).symm
    rw [this]
    exact h.inv.text i m hm
  · have hl : i < L.length := by rw [← hp.len]; exact (List.getElem?_eq_some_iff.1 hw).1
    by_cases h0 : i = 0
    · subst h0
      rw [hp.key0] at hw
      cases hw
      show (0 : Nat) ≤ _
      omega
    · obtain ⟨_, _, _, _, _, hz⟩ := way_chain h.inv hs hl (by omega) hw
      have := h.inv.lim
      rw [← hs.len] at this
      omega
set_option maxRecDepth 100000 in
set_option maxHeartbeats 2000000 in
theorem print_empty (a : Option Addr) (cap : Nat) (w : World) : Calls Tryz.prog 12 #[.slice a 0 cap] w fun e w' => e = .returned (.string (bs [])) ∧ Below w.heap.size w w' := by
  go_enter Tryz.func12, Tryz.ntmps12
  go_wp2
  obtain ⟨W0, hW0⟩ : ∃ W0, w.alloc (.cells #[.pointer none, .slice none 0 0] 65) = W0 := ⟨_, rfl⟩
  rw [hW0]
  have hbd0 : Lib.IsBuilder 65 5 w.heap.size w.heap.size (Lib.byteCells []) W0 := by rw [← hW0]; exact builder_new w
  have hbl0 : Below w.heap.size w W0 := by rw [← hW0]; exact (Below.refl _ _).alloc (Nat.le_refl _) _
  clear hW0
  refine wp_loop_rounds 1 ?_
  rw [rounds_succ]
  have HBD := hide hbd0
  have hBs := hbl0.size
  clear hbd0
  go_wp2_with fail
  refine (Tryz.Builder_String_any w.heap.size w.heap.size _ _ (unhide HBD) hBs).mono ?_
  rintro e w2 ⟨rfl, hb2⟩
  have HB2 := hide (hbl0.trans hb2)
  clear hb2
  go_wp2
  go_ret
  exact ⟨rfl, HB2.out⟩
set_option maxRecDepth 100000 in
set_option maxHeartbeats 4000000 in
theorem law_prints {A : Ads} (s : ByteArray) (w : World) (hs : s.size ≤ maxLen) (hS : Sent w.heap.size A w) (hPow : Pow w) (h7 : 7 < w.heap.size) :
    Calls Tryz.prog 4 #[.string s] w fun e w' => e = .returned (.bool true) ∧ Below w.heap.size w w' := by
  have HS := hide hS
  have HPW := hide hPow
  have HLIM := hide (loadD_lim s)
  have HT := hide (loadD_told s)
  have HPR := hide (prints_of s)
  clear hS hPow
  go_enter Tryz.func4, Tryz.ntmps4
  go_wp2_with fail
  refine (refload_any s w hs).mono ?_
  rintro e w1 ⟨u, m, rfl, hown1, hsrt1, hb1⟩
  have HSRT := hide hsrt1
  have HB1 := hide hb1
  have HRM := hide hown1.row
  have hz1 := hb1.size
  have HLS := hide (HLIM.out.1.srt hsrt1)
  clear hown1 hsrt1 hb1
  obtain ⟨L, hL⟩ : ∃ L, m.map (·.1) = L := ⟨_, rfl⟩
  rw [hL] at HSRT HRM HLS
  clear hL
  have hll := HLS.out.1
  generalize (loadD s).2.2 = pl at *
  go_wp2_with fail
  refine (nodes_any w1.heap.size u L w1 hll HLS.out.2 HRM.out (Nat.le_refl _)).mono ?_
  rintro e w2 ⟨v, l, rfl, hown2, hmap2, hb2⟩
  have HRL := hide (show NodeRow w2.heap.size w2 v L from hmap2 ▸ hown2.row)
  have HB2 := hide (HB1.out.trans (hb2.mono hz1))
  have HRM2 := hide (HRM.out.below hb2)
  have hz2 := hb2.size
  clear hown2 hmap2 hb2
  obtain ⟨a, cap, rfl⟩ := HRL.out.form
  obtain ⟨am, capm, rfl⟩ := HRM2.out.form
  rcases HT.out with ⟨h0, _, _⟩ | ⟨hnil, hne⟩
  · obtain ⟨K, hK⟩ := HPR.out h0
    have HPO := hide (prok_of hK HSRT.out)
    have HBK := hide hK.back
    rw [h0]
    clear h0 hK HPR HT HLIM
    have HSAME := hide (print_same HSRT.out K)
    have hpl : (printD L K).length ≤ 160005 * 200 := by
      rw [← print_all HPO.out.path.len]
      exact Nat.le_trans (print_len HPO.out (L.length - 1) (by omega)) (Nat.mul_le_mul_left _ (by omega))
    have HPR := hide (print_any w2.heap.size _ L K w2 HPO.out HRL.out (Nat.le_refl _) (HPW.out.below HB2.out h7) (by have := HB2.out.size; omega))
    go_wp2_with fail
    refine (unhide HPR).mono ?_
    rintro e w3 ⟨rfl, hb3⟩
    obtain ⟨T, hT⟩ : ∃ T, T = bs (printD L K) := ⟨_, rfl⟩
    rw [← hT]
    have HTT := hide hT
    have hTs : T.size ≤ 160005 * 200 := by rw [hT, ← len_data, data_bs]; exact hpl
    have HB3 := hide (HB2.out.trans (hb3.mono (by omega)))
    have HB3' := hide hb3
    have HLD := hide (treeLoad_any T (by unfold maxLen; omega) w3 ((HS.out.below HB3.out).up HB3.out.size))
    have hz3 := hb3.size
    clear hT hb3 hpl
    generalize (loadD s).1 = R at *
    go_wp2_with fail
    refine (unhide HLD).mono ?_
    rintro e w4 ⟨v4, l4, rfl, hown4, hsrt4, hb4⟩
    have HB4 := hide (HB3.out.trans (hb4.mono HB3.out.size))
    have hz4 := hb4.size
    have HB4' := hide hb4
    by_cases hbig : 20000 < T.size
    · have e1 : loadD T = ([], 1, 0) := loadD_big hbig
      rw [e1]
      have hbI : (20000 : Int) < (T.size : Int) := by omega
      have HN := hide (lawnum_any 1 w4 (by omega))
      clear hown4 hsrt4 hb4 e1
      go_wp2_with fail
      refine (unhide HN).mono ?_
      rintro e w5 ⟨rfl, hw5⟩
      rw [hw5]; clear hw5
      go_wp2
      go_ret
      exact ⟨rfl, HB4.out⟩
    · have e1 : loadD T = (R, 0, 0) := by
        rw [HTT.out, HSAME.out]
        refine HBK.out ?_
        rw [← HSAME.out, ← data_bs (printD L K), len_data, ← HTT.out]
        omega
      rw [e1] at hsrt4 ⊢
      have hbI : ¬ (20000 : Int) < (T.size : Int) := by omega
      have heq := hsrt4.uniq HSRT.out
      have HR4 := hide (show NodeRow w4.heap.size w4 v4 L from heq ▸ hown4.row)
      clear hown4 hsrt4 hb4 e1 heq
      have HRL4 := hide (HRL.out.below (HB3'.out.trans (HB4'.out.mono hz3)))
      have HRM4 := hide (HRM2.out.below ((HB3'.out.trans (HB4'.out.mono hz3)).mono hz2))
      have HSN := hide (sameNodes_any w4.heap.size w1.heap.size v4 _ L w4 hll HLS.out.2 HR4.out HRM4.out (Nat.le_refl _) (by omega))
      go_wp2_with fail
      refine (unhide HSN).mono ?_
      rintro e w5 ⟨rfl, hb5⟩
      have hz5 := hb5.size
      have HB5 := hide (HB4.out.trans (hb5.mono HB4.out.size))
      have HB5' := hide hb5
      have HPN := hide (print_any w4.heap.size v4 L K w5 HPO.out (HR4.out.below hb5) (by omega) (HPW.out.below HB5.out h7) (by have := HB4.out.size; omega))
      clear hb5
      go_wp2_with fail
      refine (unhide HPN).mono ?_
      rintro e w6 ⟨rfl, hb6⟩
      rw [← HTT.out]
      have hz6 := hb6.size
      have HB6 := hide (HB5.out.trans (hb6.mono HB5.out.size))
      have HRL6 := hide (HRL4.out.below ((HB5'.out.trans (hb6.mono hz5)).mono (by omega)))
      have HRM6 := hide (HRM4.out.below ((HB5'.out.trans (hb6.mono hz5)).mono (by omega)))
      clear hb6
      go_wp2
      go_loopw [13] (fun iv wr => ∃ i : Int, -1 ≤ i ∧ i ≤ (L.length : Int) + 1 ∧ iv = .int .i64 i ∧ Below w6.heap.size w6 wr) (fun iv _ => ((L.length : Int) + 1 - intOf iv).toNat)
      case atStart => exact ⟨-1, by omega, by omega, rfl, Below.refl _ _⟩
      case round =>
        obtain ⟨i, hi1, hi2, rfl, hbr⟩ := hrel
        have hzr := hbr.size
        by_cases hle : i ≤ (L.length : Int)
        · obtain ⟨wy, hwy⟩ : ∃ wy, Hid ((Calls Tryz.prog 13 #[.slice a L.length cap, .int .i64 i] wr fun e w' => e = .returned (.string wy) ∧ Below wr.heap.size wr w') ∧ ∀ W, Below wr.heap.size wr W → Calls Tryz.prog 14 #[.slice am L.length capm, .int .i64 i] W fun e w' => e = .returned (.string wy) ∧ w' = W) := by
            by_cases hin : 0 < i ∧ i < (L.length : Int)
            · obtain ⟨k, rfl⟩ : ∃ k : Nat, i = (k : Int) := ⟨i.toNat, by omega⟩
              obtain ⟨way, hway⟩ : ∃ way, K[k]? = some way := ⟨_, List.getElem?_eq_getElem (by rw [HPO.out.path.len]; omega)⟩
              refine ⟨way, way_any w2.heap.size _ L K k way wr HPO.out.path hll (by omega) (by omega) hway (by have := HPO.out.way k way hway; omega) (HRL6.out.below (hbr.mono (by omega))) (by omega), fun W hb => refway_any w1.heap.size _ L K k way W HPO.out.path hll (by omega) (by omega) hway (HRM6.out.below ((hbr.trans (hb.mono hzr)).mono (by omega)))⟩
            · refine ⟨⟨#[]⟩, (way_out a L.length cap i wr (by omega)).mono ?_, fun W _ => refway_out am L.length capm i W (by omega)⟩
              rintro e w' ⟨rfl, rfl⟩
              exact ⟨rfl, Below.refl _ _⟩
          have HBR := hide hbr
          clear hbr
          go_wp2_with fail
          refine (unhide hwy).1.mono ?_
          rintro e w7 ⟨rfl, hb7⟩
          have HB7 := hide (HBR.out.trans (hb7.mono hzr))
          have HW7 := hide ((unhide hwy).2 w7 hb7)
          clear hb7
          go_wp2_with fail
          refine (unhide HW7).mono ?_
          rintro e w8 ⟨rfl, hw8⟩
          rw [hw8]; clear hw8
          go_wp2
          go_roundw
          case rel => exact ⟨i + 1, by omega, by omega, rfl, HB7.out⟩
          case measure => simp [intOf]; omega
        · have HSL := hide (sameNodes_any w2.heap.size w1.heap.size _ _ L wr hll HLS.out.2 (HRL6.out.below (hbr.mono (by omega))) (HRM6.out.below (hbr.mono (by omega))) (by omega) (by omega))
          have HBR := hide hbr
          clear hbr
          go_wp2_with fail
          refine (unhide HSL).mono ?_
          rintro e w7 ⟨rfl, hb7⟩
          have HB7 := hide (HBR.out.trans (hb7.mono hzr))
          have HN := hide (lawnum_any 0 w7 (by omega))
          have HRP := hide (refprint_any w1.heap.size _ L K w7 HPO.out (HRM6.out.below ((HB7.out).mono (by omega))) (by have := HB7.out.size; omega))
          clear hb7
          go_wp2_with fail
          refine (unhide HN).mono ?_
          rintro e w8 ⟨rfl, hw8⟩
          rw [hw8]; clear hw8
          go_wp2_with fail
          refine (unhide HRP).mono ?_
          rintro e w9 ⟨rfl, hb9⟩
          rw [← HTT.out]
          have HB9 := hide ((HB6.out.trans (HB7.out.mono HB6.out.size)).trans (hb9.mono (by have := HB6.out.size; have := HB7.out.size; omega)))
          clear hb9
          go_wp2
          go_ret
          exact ⟨rfl, HB9.out⟩
  · have hl0 : L.length = 0 := by
      have := HSRT.out.len
      rw [hnil] at this
      simpa using this
    have herr : (((loadD s).2.1) != 0) = true := by rw [bne_iff_ne]; exact hne
    rw [hl0]
    have HPE := hide (print_empty a cap w2)
    generalize (loadD s).2.1 = er at *
    go_wp2_with fail
    refine (unhide HPE).mono ?_
    rintro e w3 ⟨rfl, hb3⟩
    have HB3 := hide (HB2.out.trans (hb3.mono HB2.out.size))
    have hE : (bs []).toList.isEmpty = true := by rw [ByteArray.toList_eq]; rfl
    clear hb3
    go_wp2
    go_ret
    exact ⟨rfl, HB3.out⟩
end Go.Proofs.YtconbmfbokpklaaGreatDoor
