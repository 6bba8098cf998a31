/- Merged: PrEsc, PrFld. -/
import Derived.Test.YtconbmfbokpklaaGreatDoorPA
import Derived.Test.YtconbmfbokpklaaGreatDoorText
import Derived.Test.YtconbmfbokpklaaGreatDoorPB
import Derived.Test.YtconbmfbokpklaaGreatDoorShelfP
/- The program's escape. -/
namespace Go.Proofs.YtconbmfbokpklaaGreatDoor
open Go.RowKit

theorem idx_is (c : UInt8) : (c = 92 ∧ Lib.indexByte [92, 9, 10, 0] c = 0) ∨ (c = 9 ∧ Lib.indexByte [92, 9, 10, 0] c = 1) ∨ (c = 10 ∧ Lib.indexByte [92, 9, 10, 0] c = 2) ∨ (c = 0 ∧ Lib.indexByte [92, 9, 10, 0] c = 3) ∨ (¬ c = 92 ∧ ¬ c = 9 ∧ ¬ c = 10 ∧ ¬ c = 0 ∧ Lib.indexByte [92, 9, 10, 0] c = -1) := by
  by_cases h1 : c = 92
  · subst h1; exact .inl ⟨rfl, by decide⟩
  · by_cases h2 : c = 9
    · subst h2; exact .inr (.inl ⟨rfl, by decide⟩)
    · by_cases h3 : c = 10
      · subst h3; exact .inr (.inr (.inl ⟨rfl, by decide⟩))
      · by_cases h4 : c = 0
        · subst h4; exact .inr (.inr (.inr (.inl ⟨rfl, by decide⟩)))
        · refine .inr (.inr (.inr (.inr ⟨h1, h2, h3, h4, ?_⟩)))
          have g1 : ¬ (92 : UInt8) = c := fun e => h1 e.symm
          have g2 : ¬ (9 : UInt8) = c := fun e => h2 e.symm
          have g3 : ¬ (10 : UInt8) = c := fun e => h3 e.symm
          have g4 : ¬ (0 : UInt8) = c := fun e => h4 e.symm
          simp [Lib.indexByte, g1, g2, g3, g4]
theorem idx_any (c : UInt8) (w : World) : Calls Tryz.prog 80 #[.string ⟨#[92, 9, 10, 0]⟩, .int .u8 (c.toNat : Int)] w fun e w' => e = .returned (.int .i64 (Lib.indexByte [92, 9, 10, 0] c)) ∧ w' = w := by
  have h := Tryz.strings_IndexByte ⟨#[92, 9, 10, 0]⟩ (c.toNat : Int) w
  rw [show ((c.toNat : Int).toNat).toUInt8 = c from by simp] at h
  exact h
theorem cells_push {B b : Nat} {xs : List UInt8} {c : UInt8} {w : World} (h : Lib.BuilderAt 65 5 B b (.pointer (some ⟨b, 0, none⟩)) (Lib.byteCells xs ++ [.int .u8 (c.toNat : Int)]) w) : Lib.IsBuilder 65 5 B b (Lib.byteCells (xs ++ [c])) w := by
  refine .inr ?_
  have e : Lib.byteCells (xs ++ [c]) = Lib.byteCells xs ++ [.int .u8 (c.toNat : Int)] := by rw [bytes_cells, bytes_cells]; simp [u8s]
  rw [e]; exact h
set_option maxRecDepth 100000 in
set_option maxHeartbeats 2000000 in
theorem escape_any (s : ByteArray) (w : World) (hs : s.size ≤ 100000) :
    Calls Tryz.prog 55 #[.string s] w fun e w' => e = .returned (.string (bs (escL s.data.toList))) ∧ Below w.heap.size w w' := by
  go_enter Tryz.func55, Tryz.ntmps55
  go_wp2
  obtain ⟨W0, hW0⟩ : ∃ W0, w.alloc (.cells #[.pointer none, .slice none 0 0] 65) = W0 := ⟨_, rfl⟩
  rw [hW0]
  have hbd0 : Lib.IsBuilder 65 5 w.heap.size w.heap.size [] W0 := by rw [← hW0]; exact builder_new w
  have hbl0 : Below w.heap.size w W0 := by rw [← hW0]; exact (Below.refl _ _).alloc (Nat.le_refl _) _
  clear hW0
  go_loopw [8] (fun iv wr => ∃ (k : Nat) (xs : List UInt8), k ≤ s.size ∧ iv = .int .i64 k ∧ EscSt s k xs ∧ Lib.IsBuilder 65 5 w.heap.size w.heap.size (Lib.byteCells xs) wr ∧ Below w.heap.size w wr) (fun iv _ => s.size - (intOf iv).toNat)
  case atStart => exact ⟨0, [], Nat.zero_le _, rfl, rfl, hbd0, hbl0⟩
  case round =>
    obtain ⟨k, xs, hk, rfl, hst, hbd, hbr⟩ := hrel
    have hxl := escSt_len hst
    have hBs := hbr.size
    have HBD := hide hbd
    clear hbd hbd0 hbl0
    by_cases hlt : k < s.size
    · have HX := hide (escSt_step hst hlt)
      have hltI : (k : Int) < (s.size : Int) := by omega
      have HI := hide (idx_any s[k] wr)
      clear hst
      rcases idx_is s[k] with ⟨hc, hi⟩ | ⟨hc, hi⟩ | ⟨hc, hi⟩ | ⟨hc, hi⟩ | ⟨n1, n2, n3, n4, hi⟩
      · rw [esc92 hc] at HX
        clear hc
        rw [hi] at HI
        clear hi
        go_wp2_with fail
        refine (unhide HI).mono ?_
        rintro e ww ⟨rfl, hww⟩
        rw [hww]; clear hww
        go_wp2_with fail
        refine (writeByte_any w.heap.size w.heap.size _ 92 _ (unhide HBD) (by rw [bytes_cells]; simp [u8s]; omega) hBs).mono ?_
        rintro e w2 ⟨rfl, hbd2, hb2⟩
        have HB2 := hide (hbr.trans hb2)
        have HD2 : Hid (Lib.IsBuilder 65 5 w.heap.size w.heap.size (Lib.byteCells (xs ++ [92])) w2) := cells_push (c := 92) hbd2
        clear hbd2 hb2
        go_wp2_with fail
        refine (writeByte_any w.heap.size w.heap.size _ 92 _ (unhide HD2) (by rw [bytes_cells]; simp [u8s]; omega) HB2.out.size).mono ?_
        rintro e w3 ⟨rfl, hbd3, hb3⟩
        have HB3 := hide (HB2.out.trans hb3)
        have HD3 : Hid (Lib.IsBuilder 65 5 w.heap.size w.heap.size (Lib.byteCells (xs ++ [92] ++ [92])) w3) := cells_push (c := 92) hbd3
        clear hbd3 hb3
        go_wp2
        go_roundw
        case rel => exact ⟨k + 1, xs ++ [92] ++ [92], by omega, by go_num, by rw [List.append_assoc]; exact HX.out, HD3.out, HB3.out⟩
        case measure => simp [intOf]; omega
      · rw [esc9 hc] at HX
        clear hc
        rw [hi] at HI
        clear hi
        go_wp2_with fail
        refine (unhide HI).mono ?_
        rintro e ww ⟨rfl, hww⟩
        rw [hww]; clear hww
        go_wp2_with fail
        refine (writeByte_any w.heap.size w.heap.size _ 92 _ (unhide HBD) (by rw [bytes_cells]; simp [u8s]; omega) hBs).mono ?_
        rintro e w2 ⟨rfl, hbd2, hb2⟩
        have HB2 := hide (hbr.trans hb2)
        have HD2 : Hid (Lib.IsBuilder 65 5 w.heap.size w.heap.size (Lib.byteCells (xs ++ [92])) w2) := cells_push (c := 92) hbd2
        clear hbd2 hb2
        go_wp2_with fail
        refine (writeByte_any w.heap.size w.heap.size _ 116 _ (unhide HD2) (by rw [bytes_cells]; simp [u8s]; omega) HB2.out.size).mono ?_
        rintro e w3 ⟨rfl, hbd3, hb3⟩
        have HB3 := hide (HB2.out.trans hb3)
        have HD3 : Hid (Lib.IsBuilder 65 5 w.heap.size w.heap.size (Lib.byteCells (xs ++ [92] ++ [116])) w3) := cells_push (c := 116) hbd3
        clear hbd3 hb3
        go_wp2
        go_roundw
        case rel => exact ⟨k + 1, xs ++ [92] ++ [116], by omega, by go_num, by rw [List.append_assoc]; exact HX.out, HD3.out, HB3.out⟩
        case measure => simp [intOf]; omega
      · rw [esc10 hc] at HX
        clear hc
        rw [hi] at HI
        clear hi
        go_wp2_with fail
        refine (unhide HI).mono ?_
        rintro e ww ⟨rfl, hww⟩
        rw [hww]; clear hww
        go_wp2_with fail
        refine (writeByte_any w.heap.size w.heap.size _ 92 _ (unhide HBD) (by rw [bytes_cells]; simp [u8s]; omega) hBs).mono ?_
        rintro e w2 ⟨rfl, hbd2, hb2⟩
        have HB2 := hide (hbr.trans hb2)
        have HD2 : Hid (Lib.IsBuilder 65 5 w.heap.size w.heap.size (Lib.byteCells (xs ++ [92])) w2) := cells_push (c := 92) hbd2
        clear hbd2 hb2
        go_wp2_with fail
        refine (writeByte_any w.heap.size w.heap.size _ 110 _ (unhide HD2) (by rw [bytes_cells]; simp [u8s]; omega) HB2.out.size).mono ?_
        rintro e w3 ⟨rfl, hbd3, hb3⟩
        have HB3 := hide (HB2.out.trans hb3)
        have HD3 : Hid (Lib.IsBuilder 65 5 w.heap.size w.heap.size (Lib.byteCells (xs ++ [92] ++ [110])) w3) := cells_push (c := 110) hbd3
        clear hbd3 hb3
        go_wp2
        go_roundw
        case rel => exact ⟨k + 1, xs ++ [92] ++ [110], by omega, by go_num, by rw [List.append_assoc]; exact HX.out, HD3.out, HB3.out⟩
        case measure => simp [intOf]; omega
      · rw [esc0 hc] at HX
        clear hc
        rw [hi] at HI
        clear hi
        go_wp2_with fail
        refine (unhide HI).mono ?_
        rintro e ww ⟨rfl, hww⟩
        rw [hww]; clear hww
        go_wp2_with fail
        refine (writeByte_any w.heap.size w.heap.size _ 92 _ (unhide HBD) (by rw [bytes_cells]; simp [u8s]; omega) hBs).mono ?_
        rintro e w2 ⟨rfl, hbd2, hb2⟩
        have HB2 := hide (hbr.trans hb2)
        have HD2 : Hid (Lib.IsBuilder 65 5 w.heap.size w.heap.size (Lib.byteCells (xs ++ [92])) w2) := cells_push (c := 92) hbd2
        clear hbd2 hb2
        go_wp2_with fail
        refine (writeByte_any w.heap.size w.heap.size _ 48 _ (unhide HD2) (by rw [bytes_cells]; simp [u8s]; omega) HB2.out.size).mono ?_
        rintro e w3 ⟨rfl, hbd3, hb3⟩
        have HB3 := hide (HB2.out.trans hb3)
        have HD3 : Hid (Lib.IsBuilder 65 5 w.heap.size w.heap.size (Lib.byteCells (xs ++ [92] ++ [48])) w3) := cells_push (c := 48) hbd3
        clear hbd3 hb3
        go_wp2
        go_roundw
        case rel => exact ⟨k + 1, xs ++ [92] ++ [48], by omega, by go_num, by rw [List.append_assoc]; exact HX.out, HD3.out, HB3.out⟩
        case measure => simp [intOf]; omega
      · rw [escNo n1 n2 n3 n4] at HX
        clear n1 n2 n3 n4
        rw [hi] at HI
        clear hi
        go_wp2_with fail
        refine (unhide HI).mono ?_
        rintro e ww ⟨rfl, hww⟩
        rw [hww]; clear hww
        go_wp2_with fail
        refine (writeByte_any w.heap.size w.heap.size _ (s[k].toNat : Int) _ (unhide HBD) (by rw [bytes_cells]; simp [u8s]; omega) hBs).mono ?_
        rintro e w2 ⟨rfl, hbd2, hb2⟩
        have HB2 := hide (hbr.trans hb2)
        have HD2 : Hid (Lib.IsBuilder 65 5 w.heap.size w.heap.size (Lib.byteCells (xs ++ [s[k]])) w2) := cells_push hbd2
        clear hbd2 hb2
        go_wp2
        go_roundw
        case rel => exact ⟨k + 1, xs ++ [s[k]], by omega, by go_num, HX.out, HD2.out, HB2.out⟩
        case measure => simp [intOf]; omega
    · obtain rfl : k = s.size := by omega
      have HE := hide (escSt_end hst)
      clear hst
      go_wp2_with fail
      refine (Tryz.Builder_String_any w.heap.size w.heap.size xs _ (unhide HBD) hBs).mono ?_
      rintro e w2 ⟨rfl, hb2⟩
      have HB2 := hide (hbr.trans hb2)
      clear hb2
      go_wp2
      go_ret
      exact ⟨by rw [← HE.out]; rfl, HB2.out⟩
end Go.Proofs.YtconbmfbokpklaaGreatDoor
/- The program's lineFields. -/
namespace Go.Proofs.YtconbmfbokpklaaGreatDoor
open Go.RowKit Go.Sort

/-- The table that Itoa reads. -/
def Pow (W : World) : Prop := Lib.TabIs Tryz.prog W "internal/strconv.uint64pow10" .u64 Lib.pow10Tab
theorem Tryz.pow7 : Tryz.prog.globalNamed "internal/strconv.uint64pow10" = some 7 := by kernel_rfl
theorem Pow.below {C : Nat} {W W' : World} (h : Pow W) (hb : Below C W W') (hC : 7 < C) : Pow W' := by
  unfold Pow Lib.TabIs World.var? at h ⊢
  rw [Tryz.pow7] at h ⊢
  show (match W'.heap[7]? with
    | some (.cells cs _ _) => some cs
    | _ => none) = _
  rw [hb.block 7 hC]
  exact h
theorem grow_below (w : World) (os : Array Obj) : Below w.heap.size w (grow w os) := ⟨rfl, rfl, rfl, by simp [grow], fun k hk => by simp [grow, Array.getElem?_append_left hk]⟩
theorem itoa_any (n : Int) (w : World) (h0 : 0 ≤ n) (h9 : n ≤ 999999999) (hp : Pow w) : Calls Tryz.prog 54 #[.int .i64 n] w fun e w' => e = .returned (.string (bs (decI n))) ∧ Below w.heap.size w w' := by
  refine (Tryz.strconv_Itoa n (by omega) (by omega) w hp).mono ?_
  rintro e w' ⟨rfl, k, os, rfl⟩
  refine ⟨?_, (below_drewN (Below.refl _ _) k).trans (show Below w.heap.size (w.drewN k) (grow (w.drewN k) os) from grow_below (w.drewN k) os)⟩
  unfold Lib.itoa decI
  rw [if_neg (by omega)]
  rfl
def FldPost (n : NodeD) (w : World) (e : Ending) (w' : World) : Prop := ∃ v, e = .returned (.tuple #[.string (bs (signL n)), v]) ∧ w'.ownsRow w.heap.size 9 1 v (fldsL n).length ((fldsL n).map (fun x => Value.string (bs x))) ∧ Below w.heap.size w w'
set_option maxRecDepth 100000 in
set_option maxHeartbeats 4000000 in
theorem fields_any' (C : Nat) (n : NodeD) (ka : Option Addr) (km kc : Nat) (w : World) (hf : FldOk (fldOf n)) (ht : n.text.size ≤ 20000) (hp : Pow w) (hC : C ≤ w.heap.size) (h7 : 7 < C) :
    Calls Tryz.prog 26 #[.agg #[.int .u8 n.kind, .string n.name, .int .i64 n.up, .int .i64 n.size, .int .i64 n.time, .string n.text, .slice ka km kc]] w (FldPost n w) := by
  have hnum := fld_nums hf ht
  obtain ⟨W0, hW0⟩ : ∃ W0, w.alloc (.cells #[.int .u8 n.kind, .string n.name, .int .i64 n.up, .int .i64 n.size, .int .i64 n.time, .string n.text, .slice ka km kc] 33) = W0 := ⟨_, rfl⟩
  have hbl0 : Below w.heap.size w W0 := by rw [← hW0]; exact (Below.refl _ _).alloc (Nat.le_refl _) _
  have hbx : W0.heap[w.heap.size]? = some (.cells #[.int .u8 n.kind, .string n.name, .int .i64 n.up, .int .i64 n.size, .int .i64 n.time, .string n.text, .slice ka km kc] 33) := by rw [← hW0]; exact World.alloc_heap_new w _
  have hz0 : W0.heap.size = w.heap.size + 1 := by rw [← hW0]; simp
  have HW := hide hW0
  have HB0 := hide hbl0
  have HBX := hide hbx
  have HZ0 := hide hz0
  have HP := hide (hp.below hbl0 (by omega))
  obtain ⟨b0, b1, b2, b3, b4, b5, b6⟩ := box7 hbx
  clear hW0 hbl0 hbx hz0 hp
  have HS : Hid (∀ W, Below W0.heap.size W0 W → Calls Tryz.prog 54 #[.int .i64 n.size] W fun e w' => e = .returned (.string (bs (decI n.size))) ∧ Below W.heap.size W w') := fun W hb => itoa_any n.size W hnum.1 hnum.2.1 (HP.out.below hb (by rw [HZ0.out]; omega))
  have HT : Hid (∀ W, Below W0.heap.size W0 W → Calls Tryz.prog 54 #[.int .i64 n.time] W fun e w' => e = .returned (.string (bs (decI n.time))) ∧ Below W.heap.size W w') := fun W hb => itoa_any n.time W hnum.2.2.1 hnum.2.2.2 (HP.out.below hb (by rw [HZ0.out]; omega))
  have HE : Hid (∀ W, Calls Tryz.prog 55 #[.string n.text] W fun e w' => e = .returned (.string (bs (escL n.text.data.toList))) ∧ Below W.heap.size W w') := fun W => escape_any n.text W (by omega)
  have hcase : ((n.kind = 100 ∨ n.kind = 120) ∧ Hid (signL n = [UInt8.ofNat n.kind.toNat] ∧ fldsL n = [])) ∨ (n.kind = 102 ∧ n.text.toList.isEmpty = false ∧ ((n.text.size : Int) == n.size) = true ∧ Hid (signL n = [116] ∧ fldsL n = [decI n.time, escL n.text.data.toList])) ∨ (n.kind = 102 ∧ n.text.toList.isEmpty = true ∧ Hid (signL n = [102] ∧ fldsL n = [decI n.size, decI n.time])) ∨ (n.kind = 108 ∧ Hid (signL n = [108] ∧ fldsL n = [escL n.text.data.toList])) := by
    rcases hf with ⟨hk, _⟩ | ⟨hk, _, _, h3⟩ | ⟨hk, _⟩
    · refine .inl ⟨hk, ?_⟩
      have hk' : n.kind = 100 ∨ n.kind = 120 := hk
      rcases hk' with h | h
      · exact ⟨by rw [(sign100 h).1, h]; rfl, (sign100 h).2⟩
      · exact ⟨by rw [(sign120 h).1, h]; rfl, (sign120 h).2⟩
    · have hk' : n.kind = 102 := hk
      rcases h3 with ⟨e, _⟩ | ⟨e1, e2⟩
      · have e' : n.text = bs [] := e
        have hnt : ¬ isTx n := fun h => by have := h.1; rw [e'] at this; exact absurd this (by decide)
        exact .inr (.inr (.inl ⟨hk', by rw [e', ByteArray.toList_eq]; rfl, by unfold Hid signL fldsL; rw [if_pos hk', if_neg hnt, if_pos hk', if_neg hnt]; exact ⟨rfl, rfl⟩⟩))
      · have e1' : 0 < n.text.size := e1
        have e2' : n.size = (n.text.size : Int) := e2
        have hnt : isTx n := ⟨e1', e2'.symm⟩
        exact .inr (.inl ⟨hk', emp_no e1', by rw [e2']; simp, by unfold Hid signL fldsL; rw [if_pos hk', if_pos hnt, if_pos hk', if_pos hnt]; exact ⟨rfl, rfl⟩⟩)
    · exact .inr (.inr (.inr ⟨hk, sign108 hk⟩))
  clear hf hnum
  rcases hcase with ⟨hk, hln⟩ | ⟨hk, hte, hsze, hln⟩ | ⟨hk, hte, hln⟩ | ⟨hk, hln⟩
  · have k102 : (n.kind == 102) = false := by rw [beq_eq_false_iff_ne]; omega
    have k108 : (n.kind == 108) = false := by rw [beq_eq_false_iff_ne]; omega
    obtain ⟨qq, W5, hqq, hcv, hbl5⟩ : ∃ qq W5, Hid (qq = bs [UInt8.ofNat n.kind.toNat]) ∧ (convert 63 9 (.slice (some ⟨w.heap.size + 1, 0, none⟩) 1 1)).run Tryz.prog ((w.alloc (.cells #[.int .u8 n.kind, .string n.name, .int .i64 n.up, .int .i64 n.size, .int .i64 n.time, .string n.text, .slice ka km kc] 33)).alloc (.cells #[.int .u8 n.kind] 5)) = .ok (.string qq) W5 ∧ Hid (Below w.heap.size w W5) := by
      have h := conv_byte W0 n.kind (by omega) (by omega)
      have hb : Below w.heap.size w (W0.alloc (.cells #[.int .u8 n.kind] 5)) := HB0.out.alloc HB0.out.size _
      rw [HZ0.out] at h
      refine ⟨_, W0.alloc (.cells #[.int .u8 n.kind] 5), rfl, ?_, hb⟩
      rw [HW.out]
      exact h
    clear hk
    go_enter Tryz.func26, Tryz.ntmps26
    go_wp2
    go_ret2
    refine ⟨.slice none 0 0, ?_, ?_, hbl5.out⟩
    · rw [hln.out.1, ← hqq.out]; rfl
    · rw [hln.out.2]; exact World.ownsRow_nil _ _ _ _
  · have k102 : (n.kind == 102) = true := by rw [beq_iff_eq]; exact hk
    clear hk
    go_enter Tryz.func26, Tryz.ntmps26
    go_wp2_with fail
    rw [unhide HW]
    go_region_with (first | (go_at_call 54; refine ((unhide HT) _ ?hb).mono ?_; (case hb => exact ⟨rfl, rfl, rfl, Nat.le_refl _, fun _ _ => rfl⟩); rintro e w1 ⟨rfl, hb1⟩; have x5 : w1.cell? ⟨w.heap.size, 5, none⟩ = some (.string n.text) := (hb1.cell (p := ⟨w.heap.size, 5, none⟩) (by show w.heap.size < W0.heap.size; rw [HZ0.out]; omega)).trans b5) | (go_at_call 55; refine ((unhide HE) _).mono ?_; rintro e w2 ⟨rfl, hb2⟩))
    all_goals
      have B1 : Below w.heap.size W0 w1 := ⟨hb1.os, hb1.tape, hb1.output, hb1.size, fun k hk => hb1.block k (by show k < W0.heap.size; rw [HZ0.out]; omega)⟩
      have hz1 : w.heap.size < w1.heap.size := by have := B1.size; have := HZ0.out; omega
      have B2 : Below w.heap.size w1 w2 := ⟨hb2.os, hb2.tape, hb2.output, hb2.size, fun k hk => hb2.block k (by show k < w1.heap.size; omega)⟩
      have HBB := hide (HB0.out.trans (B1.trans B2))
      clear B1 B2 hb1 hb2 x5
      go_wp2
      go_ret2
      refine ⟨.slice (some ⟨w2.heap.size, 0, none⟩) 2 2, ?_, ?_, ?_⟩
      · rw [hln.out.1]; rfl
      · rw [hln.out.2]
        exact World.ownsRow_lit w2 #[.string (bs (decI n.time)), .string (bs (escL n.text.data.toList))] 2 HBB.out.size (by decide) rfl
      · exact HBB.out.alloc HBB.out.size _
  · have k102 : (n.kind == 102) = true := by rw [beq_iff_eq]; exact hk
    clear hk
    go_enter Tryz.func26, Tryz.ntmps26
    go_wp2_with fail
    rw [unhide HW]
    go_region_with (first | (go_at_call 54; refine ((unhide HS) _ ?hb).mono ?_; (case hb => exact ⟨rfl, rfl, rfl, Nat.le_refl _, fun _ _ => rfl⟩); rintro e w1 ⟨rfl, hb1⟩; have x4 : w1.cell? ⟨w.heap.size, 4, none⟩ = some (.int .i64 n.time) := (hb1.cell (p := ⟨w.heap.size, 4, none⟩) (by show w.heap.size < W0.heap.size; rw [HZ0.out]; omega)).trans b4) | (go_at_call 54; refine ((unhide HT) _ ?hb).mono ?_; (case hb => exact ⟨hb1.os, hb1.tape, hb1.output, hb1.size, hb1.block⟩); rintro e w2 ⟨rfl, hb2⟩))
    all_goals
      have B1 : Below w.heap.size W0 w1 := ⟨hb1.os, hb1.tape, hb1.output, hb1.size, fun k hk => hb1.block k (by show k < W0.heap.size; rw [HZ0.out]; omega)⟩
      have hz1 : w.heap.size < w1.heap.size := by have := B1.size; have := HZ0.out; omega
      have B2 : Below w.heap.size w1 w2 := ⟨hb2.os, hb2.tape, hb2.output, hb2.size, fun k hk => hb2.block k (by show k < w1.heap.size; omega)⟩
      have HBB := hide (HB0.out.trans (B1.trans B2))
      clear B1 B2 hb1 hb2 x4
      go_wp2
      go_ret2
      refine ⟨.slice (some ⟨w2.heap.size, 0, none⟩) 2 2, ?_, ?_, ?_⟩
      · rw [hln.out.1]; rfl
      · rw [hln.out.2]
        exact World.ownsRow_lit w2 #[.string (bs (decI n.size)), .string (bs (decI n.time))] 2 HBB.out.size (by decide) rfl
      · exact HBB.out.alloc HBB.out.size _
  · have k102 : (n.kind == 102) = false := by rw [beq_eq_false_iff_ne]; omega
    have k108 : (n.kind == 108) = true := by rw [beq_iff_eq]; exact hk
    clear hk
    go_enter Tryz.func26, Tryz.ntmps26
    go_wp2_with fail
    rw [unhide HW]
    refine ((unhide HE) W0).mono ?_
    rintro e w1 ⟨rfl, hb1⟩
    have HBB := hide (HB0.out.trans (hb1.mono HB0.out.size))
    clear hb1
    go_wp2
    go_ret2
    refine ⟨.slice (some ⟨w1.heap.size, 0, none⟩) 1 1, ?_, ?_, ?_⟩
    · rw [hln.out.1]; rfl
    · rw [hln.out.2]
      exact World.ownsRow_lit w1 #[.string (bs (escL n.text.data.toList))] 1 HBB.out.size (by decide) rfl
    · exact HBB.out.alloc HBB.out.size _
end Go.Proofs.YtconbmfbokpklaaGreatDoor
