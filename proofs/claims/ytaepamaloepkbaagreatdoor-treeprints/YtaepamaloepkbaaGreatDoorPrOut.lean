/- The program's Print. -/
import Derived.Test.YtaepamaloepkbaaGreatDoorPrFld
import Derived.Laws.AppendOwnNone
namespace Go.Proofs.YtaepamaloepkbaaGreatDoor
open Go.RowKit

theorem isBuilder_below {B b : Nat} {bs : List Value} {w w' : World} (h : Lib.IsBuilder 65 5 B b bs w) (hb : Below w.heap.size w w') : Lib.IsBuilder 65 5 B b bs w' := by
  rcases h with ⟨hB, v, hk, ho, hn⟩ | ⟨hB, v, hk, ho, hn⟩
  · exact .inl ⟨hB, v, (hb.block b (Array.getElem?_eq_some_iff.1 hk).1).trans hk, owns_below' ho hb, hn⟩
  · exact .inr ⟨hB, v, (hb.block b (Array.getElem?_eq_some_iff.1 hk).1).trans hk, owns_below' ho hb, hn⟩
set_option maxHeartbeats 1000000 in
theorem writeByteP_any (B b : Nat) (bs : List Value) (c : Int) (w : World) (h : Lib.IsBuilder 65 5 B b bs w) (hlen : bs.length + 1 ≤ 1000000000) (hBw : B ≤ w.heap.size) :
    Calls Tryz.prog 29 #[.pointer (some ⟨b, 0, none⟩), .int .u8 c] w fun e w' => e = .returned .nilIface ∧ (Lib.BuilderAt 65 5 B b (.pointer (some ⟨b, 0, none⟩)) (bs ++ [.int .u8 c]) w' ∧ Below B w w') := by
  obtain ⟨i0, hi, hz0, hz1, hz2⟩ := info_parts Tryz.info5
  go_enter Tryz.func29, Tryz.ntmps29
  go_wp2_with fail
  refine (copyCheck_any B b bs _ h).mono ?_
  rintro e w1 ⟨rfl, h1, hb1⟩
  obtain ⟨hB, v, hbk, hown, hne⟩ := h1
  have c0 : w1.cell? ⟨b, 0, none⟩ = some (.pointer (some ⟨b, 0, none⟩)) := by rw [Lib.cell_of_heap hbk]; rfl
  have c1 : w1.cell? ⟨b, 1, none⟩ = some v := by rw [Lib.cell_of_heap hbk]; rfl
  go_wp2_with (at_builtin; refine wpList_append_own _ rfl _ _ 63 rfl B 5 i0 (.int .u8 0) 1 1 Tryz.underlying63 hi hz0 hz1 hz2 rfl (by decide) _ _ _ rfl (hown.alloc _) ⟨w1.heap.size, 0, none⟩ 1 1 [.int .u8 c] rfl rfl (cell_one_new _ _ _) (by simp [Value.oneCell']) (by unfold maxLen; omega) (by omega) (by have := hb1.size; simp; omega) ?_)
  intro v' w2 hown' hgrow _
  have hlt : b < w1.heap.size := (Array.getElem?_eq_some_iff.1 hbk).1
  have hb2 : w2.heap[b]? = some (.cells #[.pointer (some ⟨b, 0, none⟩), v] 65 (0, 0)) := by
    rw [hgrow.block b (by simp; omega) (fun e => hne e.symm), Lib.alloc_old w1 _ b hlt]
    exact hbk
  have d0 : w2.cell? ⟨b, 0, none⟩ = some (.pointer (some ⟨b, 0, none⟩)) := by rw [Lib.cell_of_heap hb2]; rfl
  have d1 : w2.cell? ⟨b, 1, none⟩ = some v := by rw [Lib.cell_of_heap hb2]; rfl
  have f1 : w2.frozen? ⟨b, 1, none⟩ = false := Lib.frozen_of_heap hb2 1
  obtain ⟨g, cap, rfl⟩ := ownsRow_succ hown'
  go_wp2
  go_ret
  refine ⟨rfl, ?_, ?_⟩
  · exact Lib.BuilderAt.put (T := 65) (e := 5) hB hb2 (bs' := bs ++ [.int .u8 c]) (by simpa using hown') (by decide)
  · exact ((hb1.alloc (by have := hb1.size; omega) _).grown hgrow (by have := hb1.size; simp; omega) (fun k hk => (hown.lt k hk).1)).setCell (p := ⟨b, 1, none⟩) hB _
theorem writeString_any (B b : Nat) (xs : List UInt8) (s : ByteArray) (w : World) (h : Lib.IsBuilder 65 5 B b (Lib.byteCells xs) w) (hlen : xs.length + s.size ≤ 1000000000) (hBw : B ≤ w.heap.size) :
    Calls Tryz.prog 27 #[.pointer (some ⟨b, 0, none⟩), .string s] w fun e w' => e = .returned (.tuple #[.int .i64 s.size, .nilIface]) ∧ Lib.IsBuilder 65 5 B b (Lib.byteCells (xs ++ s.data.toList)) w' ∧ Below B w w' := by
  refine (Any.Builder_WriteString ({ Tryz.lays156 with } : Lays.n166 Tryz.prog Tryz.lays156_ren) Tryz.Builder_Extra_156 B b (Lib.byteCells xs) s w h (by rw [bytes_cells]; simp [u8s]; omega) hBw).mono ?_
  rintro e w' ⟨rfl, h1, h2⟩
  refine ⟨rfl, .inr ?_, h2⟩
  have e : Lib.byteCells (xs ++ s.data.toList) = Lib.byteCells xs ++ Lib.strCells s := by
    rw [bytes_cells, bytes_cells]
    simp [u8s, Lib.strCells]
  rw [e]
  exact h1
theorem join_row {B : Nat} {W : World} {v : Value} {ys : List ByteArray} (h : W.ownsRow B 9 1 v ys.length (ys.map Value.string)) (hne : 0 < ys.length) (hl : ys.length ≤ 1000) (hj : (Lib.join (ys.map (·.data.toList)) [9]).length ≤ 1000000000) :
    Calls Tryz.prog 28 #[v, .string ⟨#[9]⟩] W fun e w' => e = .returned (.string (bs (Lib.join (ys.map (·.data.toList)) [9]))) ∧ Below W.heap.size W w' := by
  obtain ⟨g, cap, rfl, hcap⟩ : ∃ g cap, v = .slice (some ⟨g, 0, none⟩) ys.length cap ∧ ys.length ≤ cap := by
    rcases h.2 with ⟨_, e⟩ | ⟨g, cap, cur, e, _, _, hn, _⟩
    · omega
    · exact ⟨g, cap, e, hn⟩
  exact Tryz.strings_Join g 0 cap ys ⟨#[9]⟩ W (fun j x hx => by rw [Nat.zero_add]; exact row_cell1 h hx) (h.lt g rfl).2 (by omega) hcap (Nat.le_trans hj (by omega))
theorem line_ys {n : NodeD} {way gg : ByteArray} (hg : gg = bs (signL n)) : Lib.join ((gg :: way :: (fldsL n).map bs).map (·.data.toList)) [9] = lineL n way.data.toList := by
  have e : (gg :: way :: (fldsL n).map bs).map (·.data.toList) = signL n :: way.data.toList :: fldsL n := by
    rw [hg, List.map_cons, List.map_cons, List.map_map, data_bs]
    congr 2
    conv => rhs; rw [← List.map_id (fldsL n)]
    rfl
  rw [e]
  rfl
set_option maxRecDepth 100000 in
set_option maxHeartbeats 4000000 in
theorem print_any (C : Nat) (v : Value) (L : List NodeD) (K : List ByteArray) (w : World) (hok : PrOk L K) (hrow : NodeRow C w v L) (hC : C ≤ w.heap.size) (hp : Pow w) (h7 : 7 < C) :
    Calls Tryz.prog 12 #[v] w fun e w' => e = .returned (.string (bs (printD L K))) ∧ Below w.heap.size w w' := by
  obtain ⟨i0, hi, hz0, hz1, hz2⟩ := info_parts Tryz.info9
  obtain ⟨a, cap, rfl⟩ := hrow.form
  have hlen := hok.len
  have HROW := hide hrow
  have HOK := hide hok
  have HP := hide hp
  clear hrow hok hp
  go_enter Tryz.func12, Tryz.ntmps12
  go_wp2
  obtain ⟨W0, hW0⟩ : ∃ W0, w.alloc (.cells #[.pointer none, .slice none 0 0] 65) = W0 := ⟨_, rfl⟩
  rw [hW0]
  have hbd0 : Lib.IsBuilder 65 5 w.heap.size w.heap.size [] W0 := by rw [← hW0]; exact builder_new w
  have hbl0 : Below w.heap.size w W0 := by rw [← hW0]; exact (Below.refl _ _).alloc (Nat.le_refl _) _
  clear hW0
  go_loopw [11] (fun iv wr => ∃ k : Nat, k ≤ L.length ∧ iv = .int .i64 k ∧ Lib.IsBuilder 65 5 w.heap.size w.heap.size (Lib.byteCells (printL ((pairsL L K).take (k - 1)))) wr ∧ Below w.heap.size w wr) (fun iv _ => L.length - (intOf iv).toNat)
  case atStart => exact ⟨0, Nat.zero_le _, rfl, hbd0, hbl0⟩
  case round =>
    obtain ⟨k, hk, rfl, hbd, hbr⟩ := hrel
    have hBs := hbr.size
    clear hbd0 hbl0
    by_cases hlt : k < L.length
    · obtain ⟨x, hx⟩ : ∃ x, L[k]? = some x := ⟨_, List.getElem?_eq_getElem hlt⟩
      obtain ⟨ga, ka, km, kc, rfl, hga, hca, ⟨p0, p1, p2, p3, p4, p5, p6⟩, _⟩ := (HROW.out.below (hbr.mono hC)).at hx
      have hkI : (k : Int) < (L.length : Int) := by omega
      obtain ⟨W1, hW1⟩ : ∃ W1, wr.alloc (.cells #[.int .u8 x.kind, .string x.name, .int .i64 x.up, .int .i64 x.size, .int .i64 x.time, .string x.text, .slice ka km kc] 33) = W1 := ⟨_, rfl⟩
      have hb1 : Below wr.heap.size wr W1 := by rw [← hW1]; exact (Below.refl _ _).alloc (Nat.le_refl _) _
      have hbx : W1.heap[wr.heap.size]? = some (.cells #[.int .u8 x.kind, .string x.name, .int .i64 x.up, .int .i64 x.size, .int .i64 x.time, .string x.text, .slice ka km kc] 33) := by rw [← hW1]; exact World.alloc_heap_new _ _
      obtain ⟨b0, b1, b2, b3, b4, b5, b6⟩ := box7 hbx
      have HBD1 := hide (isBuilder_below hbd hb1)
      have HB1 := hide (hbr.trans (hb1.mono hBs))
      have HW1 := hide hW1
      by_cases hk0 : k = 0
      · subst hk0
        clear hbd hbr hb1 hbx hW1 hx b0 b1 b2 b3 b4 b5 b6
        go_wp2
        rw [HW1.out]
        go_roundw
        case rel => exact ⟨1, by omega, rfl, HBD1.out, HB1.out⟩
        case measure => simp [intOf]; omega
      · obtain ⟨way, hway⟩ : ∃ way, K[k]? = some way := ⟨_, List.getElem?_eq_getElem (by rw [HOK.out.path.len]; exact hlt)⟩
        have hfld := HOK.out.fld k x (by omega) hx
        have htx := HOK.out.text k x hx
        have hwz := HOK.out.way k way hway
        have hll := line_len hfld htx hwz
        have hpl := print_len HOK.out (k - 1) (by omega)
        have HSTEP := hide (print_step (by omega) hx hway)
        have hkb : ((k : Int) == 0) = false := by rw [beq_eq_false_iff_ne]; omega
        have HF := hide (fields_any' C x ka km kc W1 hfld htx (HP.out.below HB1.out (by omega)) (Nat.le_trans hC HB1.out.size) h7)
        have HWY : ∀ W, Hid (Below w.heap.size w W → Calls Tryz.prog 13 #[.slice (some ⟨ga, 0, none⟩) L.length cap, .int .i64 (k : Int)] W fun e w' => e = .returned (.string way) ∧ Below W.heap.size W w') := fun W hb => way_any C _ L K k way W HOK.out.path hlen (by omega) hlt hway (by omega) (HROW.out.below (hb.mono hC)) (Nat.le_trans hC hb.size)
        clear hbd hbr hb1 hbx hW1 hx hway hfld htx
        go_wp2_with fail
        rw [HW1.out]
        refine (unhide HF).mono ?_
        rintro e w2 ⟨v1, rfl, hown2, hb2⟩
        have HBD2 := hide (isBuilder_below HBD1.out hb2)
        have HB2 := hide (HB1.out.trans (hb2.mono HB1.out.size))
        have HOWN2 := hide hown2
        obtain ⟨gg, hgg⟩ : ∃ gg, gg = bs (signL x) := ⟨_, rfl⟩
        rw [← hgg]
        have HGG := hide hgg
        clear hb2 hown2 hgg b0 b1 b2 b3 b4 b5 b6
        go_wp2_with fail
        refine ((unhide (HWY w2)) HB2.out).mono ?_
        rintro e w3 ⟨rfl, hb3⟩
        have HB3 := hide (HB2.out.trans (hb3.mono HB2.out.size))
        have HBD3 := hide (isBuilder_below HBD2.out hb3)
        have hown3 := owns_below' HOWN2.out hb3
        have hlit : (w3.alloc (.cells #[.string gg, .string way] 9)).ownsRow w3.heap.size 9 1 (.slice (some ⟨w3.heap.size, 0, none⟩) 2 2) 2 [.string gg, .string way] := World.ownsRow_lit w3 #[.string gg, .string way] 2 (Nat.le_refl _) (by decide) rfl
        have hal : Below w3.heap.size w3 (w3.alloc (.cells #[.string gg, .string way] 9)) := (Below.refl _ _).alloc (Nat.le_refl _) _
        have hfc := flds_cnt x
        clear hb3
        rcases hown3.2 with ⟨rfl, hz⟩ | ⟨g1, cap1, cur1, rfl, _, _, _⟩
        · have HL0 := hide (List.eq_nil_of_length_eq_zero hz)
          clear hown3 hz
          go_wp2_with (at_builtin; refine wpList_append_own_none rfl _ _ 55 rfl w3.heap.size 9 i0 1 Tryz.underlying55 hi _ _ _ rfl hlit rfl ?_)
          obtain ⟨w4, hw4⟩ : ∃ w4, w3.alloc (.cells #[.string gg, .string way] 9) = w4 := ⟨_, rfl⟩
          rw [hw4]
          have hb4 : Below w3.heap.size w3 w4 := by rw [← hw4]; exact hal
          have hown4 : w4.ownsRow w3.heap.size 9 1 (.slice (some ⟨w3.heap.size, 0, none⟩) 2 2) (gg :: way :: (fldsL x).map bs).length ((gg :: way :: (fldsL x).map bs).map Value.string) := by rw [← hw4, HL0.out]; exact hlit
          clear hw4 hlit hal
          have hgw : Below w.heap.size w w4 := HB3.out.trans (hb4.mono HB3.out.size)
          have HJ : Hid (Calls Tryz.prog 28 #[.slice (some ⟨w3.heap.size, 0, none⟩) 2 2, .string ⟨#[9]⟩] w4 fun e w' => e = .returned (.string (bs (lineL x way.data.toList))) ∧ Below w4.heap.size w4 w') := by
            have h := join_row hown4 (by simp) (by have := flds_cnt x; simp; omega) (by rw [line_ys HGG.out]; omega)
            rw [line_ys HGG.out] at h
            exact h
          have HBD4 := hide (isBuilder_below HBD3.out hb4)
          have HB4 := hide hgw
          clear hown4 hb4 hgw
          go_wp2_with fail
          refine (unhide HJ).mono ?_
          rintro e w5 ⟨rfl, hb5⟩
          obtain ⟨ll, hllq⟩ : ∃ ll, ll = bs (lineL x way.data.toList) := ⟨_, rfl⟩
          rw [← hllq]
          have hlls : ll.size ≤ 160004 := by rw [hllq, ← len_data, data_bs]; exact hll
          have HLL := hide hllq
          have HBD5 := hide (isBuilder_below HBD4.out hb5)
          have HB5 := hide (HB4.out.trans (hb5.mono HB4.out.size))
          clear hllq hb5
          have HWS := hide (writeString_any w.heap.size w.heap.size _ ll w5 HBD5.out (by have : 160005 * (k - 1) ≤ 160005 * 200 := Nat.mul_le_mul_left _ (by omega); omega) HB5.out.size)
          go_wp2_with fail
          refine (unhide HWS).mono ?_
          rintro e w6 ⟨rfl, hbd6, hb6⟩
          have HB6 := hide (HB5.out.trans hb6)
          have HWB := hide (writeByteP_any w.heap.size w.heap.size _ 10 w6 hbd6 (by rw [bytes_cells]; simp only [u8s, List.length_map, List.length_append, len_data]; have : 160005 * (k - 1) ≤ 160005 * 200 := Nat.mul_le_mul_left _ (by omega); omega) HB6.out.size)
          clear hbd6 hb6
          go_wp2_with fail
          refine (unhide HWB).mono ?_
          rintro e w7 ⟨rfl, hbd7, hb7⟩
          have HB7 := hide (HB6.out.trans hb7)
          have HBD7 : Hid (Lib.IsBuilder 65 5 w.heap.size w.heap.size (Lib.byteCells (printL ((pairsL L K).take k))) w7) := by
            have h := cells_push (c := 10) hbd7
            unfold Hid
            rw [HSTEP.out]
            rw [HLL.out, data_bs, List.append_assoc] at h
            exact h
          clear hbd7 hb7
          go_wp2
          go_roundw
          case rel => exact ⟨k + 1, by omega, by go_num, by rw [show k + 1 - 1 = k from by omega]; exact HBD7.out, HB7.out⟩
          case measure => simp [intOf]; omega
        · go_wp2_with (at_builtin; refine wpList_append_own _ rfl _ _ 55 rfl w3.heap.size 9 i0 (.string ⟨#[]⟩) 1 16 Tryz.underlying55 hi hz0 hz1 hz2 rfl (by decide) _ _ _ rfl hlit ⟨g1, 0, none⟩ (fldsL x).length cap1 ((fldsL x).map (fun x => Value.string (bs x))) rfl (by simp) (fun j u hu => by rw [addr_add]; exact ((owns_below' hown3 hal).cellAt j (by have := (List.getElem?_eq_some_iff.1 hu).1; simpa using this)).trans hu) (by simp [Value.oneCell']) (by unfold maxLen; omega) (by omega) (by simp) ?_; intro v' w4 hown4' hgrow _)
          have hb4 : Below w3.heap.size w3 w4 := hal.grown hgrow (by simp) (fun j e => by cases e; exact Nat.le_refl _)
          have hown4 : w4.ownsRow w3.heap.size 9 1 v' (gg :: way :: (fldsL x).map bs).length ((gg :: way :: (fldsL x).map bs).map Value.string) := by
            have e1 : (gg :: way :: (fldsL x).map bs).length = 2 + (fldsL x).length := by simp; omega
            have e2 : (gg :: way :: (fldsL x).map bs).map Value.string = [Value.string gg, .string way] ++ (fldsL x).map (fun x => Value.string (bs x)) := by simp
            rw [e1, e2]
            exact hown4'
          clear hown4' hgrow hlit hal hown3
          have hgw : Below w.heap.size w w4 := HB3.out.trans (hb4.mono HB3.out.size)
          have HJ : Hid (Calls Tryz.prog 28 #[v', .string ⟨#[9]⟩] w4 fun e w' => e = .returned (.string (bs (lineL x way.data.toList))) ∧ Below w4.heap.size w4 w') := by
            have h := join_row hown4 (by simp) (by have := flds_cnt x; simp; omega) (by rw [line_ys HGG.out]; omega)
            rw [line_ys HGG.out] at h
            exact h
          have HBD4 := hide (isBuilder_below HBD3.out hb4)
          have HB4 := hide hgw
          clear hown4 hb4 hgw
          go_wp2_with fail
          refine (unhide HJ).mono ?_
          rintro e w5 ⟨rfl, hb5⟩
          obtain ⟨ll, hllq⟩ : ∃ ll, ll = bs (lineL x way.data.toList) := ⟨_, rfl⟩
          rw [← hllq]
          have hlls : ll.size ≤ 160004 := by rw [hllq, ← len_data, data_bs]; exact hll
          have HLL := hide hllq
          have HBD5 := hide (isBuilder_below HBD4.out hb5)
          have HB5 := hide (HB4.out.trans (hb5.mono HB4.out.size))
          clear hllq hb5
          have HWS := hide (writeString_any w.heap.size w.heap.size _ ll w5 HBD5.out (by have : 160005 * (k - 1) ≤ 160005 * 200 := Nat.mul_le_mul_left _ (by omega); omega) HB5.out.size)
          go_wp2_with fail
          refine (unhide HWS).mono ?_
          rintro e w6 ⟨rfl, hbd6, hb6⟩
          have HB6 := hide (HB5.out.trans hb6)
          have HWB := hide (writeByteP_any w.heap.size w.heap.size _ 10 w6 hbd6 (by rw [bytes_cells]; simp only [u8s, List.length_map, List.length_append, len_data]; have : 160005 * (k - 1) ≤ 160005 * 200 := Nat.mul_le_mul_left _ (by omega); omega) HB6.out.size)
          clear hbd6 hb6
          go_wp2_with fail
          refine (unhide HWB).mono ?_
          rintro e w7 ⟨rfl, hbd7, hb7⟩
          have HB7 := hide (HB6.out.trans hb7)
          have HBD7 : Hid (Lib.IsBuilder 65 5 w.heap.size w.heap.size (Lib.byteCells (printL ((pairsL L K).take k))) w7) := by
            have h := cells_push (c := 10) hbd7
            unfold Hid
            rw [HSTEP.out]
            rw [HLL.out, data_bs, List.append_assoc] at h
            exact h
          clear hbd7 hb7
          go_wp2
          go_roundw
          case rel => exact ⟨k + 1, by omega, by go_num, by rw [show k + 1 - 1 = k from by omega]; exact HBD7.out, HB7.out⟩
          case measure => simp [intOf]; omega
    · obtain rfl : k = L.length := by omega
      have HX := hide (print_all HOK.out.path.len)
      have HBD := hide hbd
      clear hbd
      go_wp2_with fail
      refine (Tryz.Builder_String_any w.heap.size w.heap.size _ _ (unhide HBD) hBs).mono ?_
      rintro e w2 ⟨rfl, hb2⟩
      have HB2 := hide (hbr.trans hb2)
      clear hb2
      go_wp2
      go_ret
      exact ⟨by rw [← HX.out]; rfl, HB2.out⟩
end Go.Proofs.YtaepamaloepkbaaGreatDoor
