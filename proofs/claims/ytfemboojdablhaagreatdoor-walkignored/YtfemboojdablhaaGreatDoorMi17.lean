import Derived.Test.YtfemboojdablhaaGreatDoorMi15
import Derived.Test.YtfemboojdablhaaGreatDoorMi16
import Derived.Deep.RegionHeld3
namespace Go.Proofs.YtfemboojdablhaaGreatDoor
open Go.RowKit Go.Maps
def brL (o : ByteArray) (esc : Bool) (S : BSet) (n : Int) (k : Bool) : List Value := brPre o esc ++ (bitsL S ++ brPost n k)
theorem brL_len (o : ByteArray) (esc : Bool) (S : BSet) (n : Int) (k : Bool) : (brL o esc S n k).length = 260 := by
  unfold brL brPre brPost
  rw [List.length_append, List.length_append, bitsL_len]
  rfl
theorem brL_one (o : ByteArray) (esc : Bool) (S : BSet) (n : Int) (k : Bool) : ∀ v ∈ brL o esc S n k, v.oneCell' = true := by
  intro v hv
  unfold brL brPre brPost at hv
  rcases List.mem_append.1 hv with hv | hv
  · simp only [List.mem_cons, List.not_mem_nil, or_false] at hv; rcases hv with rfl | rfl <;> rfl
  · rcases List.mem_append.1 hv with hv | hv
    · exact bits_one _ v hv
    · simp only [List.mem_cons, List.not_mem_nil, or_false] at hv; rcases hv with rfl | rfl <;> rfl
theorem zero140 : Tryz.zeroCells319 = (brL ⟨#[]⟩ false noneD 0 false).toArray := by kernel_rfl
theorem Tryz.size319 : (Tryz.prog.info? 319).map (·.size) = some 260 := by kernel_rfl
theorem set_br (o : ByteArray) (esc : Bool) : (((brL ⟨#[]⟩ false noneD 0 false).set 0 (.string o)).set 1 (.bool esc)).set 259 (.bool true) = brL o esc noneD 0 true := by
  have e : ((brL ⟨#[]⟩ false noneD 0 false).set 0 (.string o)).set 1 (.bool esc) = brPre o esc ++ (bitsL noneD ++ brPost 0 false) := by
    unfold brL brPre
    simp only [List.cons_append, List.nil_append, List.set_cons_zero, List.set_cons_succ]
  rw [e]
  exact app3_set (a := brPre o esc) (b := bitsL noneD) (c := brPost 0 false) rfl (bitsL_len _) 1 (.bool true)
theorem BBlk.others {W : World} {g : Nat} {o : ByteArray} {esc : Bool} {S : BSet} {post : List Value} (h : BBlk W g 319 (brPre o esc) S post) : W.cell? ⟨g, 0, none⟩ = some (.string o) := by
  unfold BBlk at h
  simp only [World.cell?, h]
  rfl
theorem index_mem (l : List UInt8) (c : UInt8) : decide (0 ≤ Lib.indexByte l c) = l.contains c := by
  rw [Bool.eq_iff_iff, decide_eq_true_eq, List.contains_iff_mem]
  constructor
  · intro h
    obtain ⟨o, ho⟩ : ∃ o : Nat, Lib.indexByte l c = o := ⟨_, (Int.toNat_of_nonneg h).symm⟩
    exact List.mem_of_getElem? (Lib.indexByte_some ho).1
  · intro h
    have := Lib.indexByte_ge l c
    by_cases e : Lib.indexByte l c = -1
    · obtain ⟨k, hk⟩ := List.getElem?_of_mem h
      exact absurd hk (Lib.indexByte_none e k)
    · omega
def brR (esc : Bool) (fl : Bool) (l : List UInt8) (S : BSet) (k : Bool) : Option PartD := brD esc (l.length + 1) fl l S k
theorem brR_nil (esc fl : Bool) (S : BSet) (k : Bool) : brR esc fl [] S k = none := rfl
theorem brR_end (esc : Bool) (r : List UInt8) (S : BSet) (k : Bool) : brR esc false (93 :: r) S k = some ⟨S, k, r⟩ := by
  unfold brR
  rw [brD, if_pos ⟨rfl, rfl⟩]
theorem brR_part (esc fl : Bool) (c : UInt8) (r : List UInt8) (S : BSet) (k : Bool) (h : ¬ (c = 93 ∧ fl = false)) : brR esc fl (c :: r) S k = brR esc false (partD esc (c :: r) S k).rest (partD esc (c :: r) S k).set (partD esc (c :: r) S k).known := by
  unfold brR
  rw [brD, if_neg h]
  exact brD_fuel esc _ _ _ _ _ _ (by have := partD_len esc (c :: r) S k (by simp); simp at this ⊢; omega) (by omega)
set_option maxRecDepth 100000 in
set_option maxHeartbeats 2000000 in
theorem readBracket_any (s o : ByteArray) (esc : Bool) (w : World) (hs : s.size ≤ 1000000000) (hM : MaxW w) (h1 : 9 < w.heap.size) :
    Calls Tryz.prog 228 #[.string s, .agg #[.string o, .bool esc]] w fun e w' => Below w.heap.size w w' ∧ ((bracketD esc o.data.toList s.data.toList = none ∧ e = .returned (.tuple #[.agg (brL ⟨#[]⟩ false noneD 0 false).toArray, .bool false])) ∨ ∃ p : PartD, bracketD esc o.data.toList s.data.toList = some p ∧ e = .returned (.tuple #[.agg (brL o esc p.set ((s.size - p.rest.length : Nat) : Int) p.known).toArray, .bool true])) := by
  have hpre := Tryz.strings_HasPrefix s ⟨#[91]⟩
  obtain ⟨g4, hg4⟩ : ∃ g4, g4 = w.heap.size + 1 := ⟨_, rfl⟩
  obtain ⟨g6, hg6⟩ : ∃ g6, g6 = w.heap.size + 2 := ⟨_, rfl⟩
  obtain ⟨W2, hW2⟩ : ∃ W2, (w.alloc (.cells #[.string o, .bool esc] 317)).alloc (.cells Tryz.zeroCells319 319) = W2 := ⟨_, rfl⟩
  have hn2 : W2.heap[g4]? = some (.cells (brL ⟨#[]⟩ false noneD 0 false).toArray 319 (0, 0)) := by
    have := World.alloc_heap_new (w.alloc (.cells #[.string o, .bool esc] 317)) (.cells Tryz.zeroCells319 319)
    rw [World.size_alloc, hW2] at this
    rw [hg4, this, zero140]
  have hb2 : Below w.heap.size w W2 := by rw [← hW2]; exact ((Below.refl _ _).alloc (Nat.le_refl _) _).alloc (by simp) _
  have hs2 : W2.heap.size = w.heap.size + 2 := by rw [← hW2, World.size_alloc, World.size_alloc]
  have hbox : W2.heap[w.heap.size]? = some (.cells #[.string o, .bool esc] 317 (0, 0)) := by
    rw [← hW2]
    exact (below_alloc_block (Below.refl (w.heap.size + 1) _) (by rw [World.size_alloc]; omega) _ _ (by omega)).trans (World.alloc_heap_new w _)
  have x0 : W2.cell? ⟨w.heap.size, 0, none⟩ = some (.string o) := by simp [World.cell?, hbox]
  have x1 : W2.cell? ⟨w.heap.size, 1, none⟩ = some (.bool esc) := by simp [World.cell?, hbox]
  have e4 : w.heap.size + 1 = g4 := hg4.symm
  have hz140 := zero140
  rw [hz140] at hW2
  cases hp : Lib.hasPrefix s.data.toList [91] with
  | false =>
    have hbr : bracketD esc o.data.toList s.data.toList = none := by
      cases hl : s.data.toList with
      | nil => rfl
      | cons c r =>
        show (if c = 91 then _ else none) = none
        rw [if_neg]
        rintro rfl
        rw [hl] at hp
        simp [Lib.hasPrefix] at hp
    have hst6 := st_blk hn2 (ys := brL ⟨#[]⟩ false noneD 0 false) ((brL_len _ _ _ _ _).trans (brL_len _ _ _ _ _).symm) (brL_one _ _ _ _ _)
    have hln6 := brL_len ⟨#[]⟩ false noneD 0 false
    have hrow := row_blk hn2 (brL ⟨#[]⟩ false noneD 0 false).toArray
    have hb07 : Below w.heap.size w (W2.setRow g4 (brL ⟨#[]⟩ false noneD 0 false).toArray) := hb2.grown (row_grown _ _ _) hb2.size (fun q e => by cases e; omega)
    have HROW := hide hrow
    have HB07 := hide hb07
    have HBR := hide hbr
    have HP := hpre W2
    rw [show (⟨#[91]⟩ : ByteArray).data.toList = [91] from rfl, hp] at HP
    clear hn2 hb2 hs2 hbox hrow hb07 hbr hpre hp hg4
    go_enter Tryz.func228, Tryz.ntmps228
    go_wp2_with fail
    refine HP.mono ?_
    rintro e w1 ⟨rfl, hw1⟩
    rw [hw1]
    clear hw1
    go_wp2
    refine bodyPost_ret (v := .tuple #[.agg (brL ⟨#[]⟩ false noneD 0 false).toArray, .bool false]) (by rw [results_cell_tmp rfl]; simp [asAddr, Result.andThen, run_loadVar_row _ g4 319 319 _ (0, 0) _ HROW.out Tryz.underlying319 rfl (by rw [Tryz.size319]; simp [brL_len])]) rfl ⟨HB07.out, .inl ⟨HBR.out, rfl⟩⟩
  | true =>
    obtain ⟨r, hl⟩ : ∃ r, s.data.toList = 91 :: r := by
      unfold Lib.hasPrefix at hp
      rw [List.isPrefixOf_iff_prefix] at hp
      obtain ⟨t, ht⟩ := hp
      exact ⟨t, ht.symm⟩
    have hsz : s.size = r.length + 1 := by
      have : s.data.toList.length = s.size := by rw [Array.length_toList]; rfl
      rw [← this, hl]
      rfl
    have hdr1 : s.data.toList.drop 1 = r := by rw [hl]; rfl
    obtain ⟨W3, hW3⟩ : ∃ W3, W2.alloc (.cells (brL ⟨#[]⟩ false noneD 0 false).toArray 319) = W3 := ⟨_, rfl⟩
    have hn3 : W3.heap[g6]? = some (.cells (brL ⟨#[]⟩ false noneD 0 false).toArray 319 (0, 0)) := by
      have := World.alloc_heap_new W2 (.cells (brL ⟨#[]⟩ false noneD 0 false).toArray 319)
      rw [hs2, hW3] at this
      rw [hg6, this]
    have b23 : Below W2.heap.size W2 W3 := by rw [← hW3]; exact (Below.refl _ _).alloc (Nat.le_refl _) _
    have hst := st_blk hn3 (ys := brL o esc noneD 0 true) ((brL_len _ _ _ _ _).trans (brL_len _ _ _ _ _).symm) (brL_one _ _ _ _ _)
    have hln := brL_len o esc noneD 0 true
    have hln0 := brL_len ⟨#[]⟩ false noneD 0 false
    obtain ⟨W4, hW4⟩ : ∃ W4, W3.setRow g6 (brL o esc noneD 0 true).toArray = W4 := ⟨_, rfl⟩
    have hg34 : W3.grownBy W4 (some g6) := by rw [← hW4]; exact row_grown _ _ _
    have hb4 : BBlk W4 g6 319 (brPre o esc) noneD (brPost 0 true) := by rw [← hW4]; exact row_blk hn3 _
    rw [hW4] at hst
    have hb24 : Below W2.heap.size W2 W4 := b23.grown hg34 b23.size (fun k e => by cases e; omega)
    have hb04 : Below w.heap.size w W4 := hb2.trans (hb24.mono hb2.size)
    have hz4 : W4.heap[g4]? = some (.cells (brL ⟨#[]⟩ false noneD 0 false).toArray 319 (0, 0)) := (hb24.block g4 (by omega)).trans hn2
    have hM4 : MaxW W4 := hM.below h1 hb04
    have HLT : Hid (9 < w.heap.size ∧ g4 = w.heap.size + 1 ∧ g6 = w.heap.size + 2 ∧ g6 < W4.heap.size) := ⟨h1, hg4, hg6, hb4.lt⟩
    have HB4 := hide hb4
    have HZ4 := hide hz4
    have HM4 := hide hM4
    have HB04 := hide hb04
    have c0 := hb4.others
    have HP := hpre W2
    rw [show (⟨#[91]⟩ : ByteArray).data.toList = [91] from rfl, hp] at HP
    have e6 : W2.heap.size = g6 := by omega
    have e6' : g4 + 1 = g6 := by omega
    have hsb := set_br o esc
    clear hn2 hb2 hs2 hbox hpre hp hg4 hg6 hn3 b23 hg34 hb4 hb24 hb04 hz4 hM4 hW4
    go_enter Tryz.func228, Tryz.ntmps228
    go_wp2_with fail
    refine HP.mono ?_
    rintro e w1 ⟨rfl, hw1⟩
    rw [hw1]
    clear hw1 HP
    cases hr : r with
    | nil =>
      subst hr
      have h1s : ¬ ((1 : Int) < (s.size : Int)) := by rw [hsz]; simp
      have hbr : bracketD esc o.data.toList s.data.toList = brR esc true (s.data.toList.drop 1) noneD true := by
        rw [hdr1, hl]
        rfl
      have hs1' : 1 ≤ s.size := by omega
      clear hl hdr1
      go_wp2_with fail
      go_region
      go_wp2
      obtain ⟨R, hR⟩ : ∃ R, brR esc true (s.data.toList.drop 1) noneD true = R := ⟨_, rfl⟩
      rw [hR] at hbr
      have HBR := hide hbr
      have HR0 := hide hR
      clear hbr hR
      go_loopw [7] (fun iv wr => ∃ (i : Nat) (S : BSet) (k : Bool), iv = .int .i64 (i : Int) ∧ 1 ≤ i ∧ i ≤ s.size ∧ BBlk wr g6 319 (brPre o esc) S (brPost 0 k) ∧ brR esc (decide (i = 1)) (s.data.toList.drop i) S k = R ∧ W4.grownBy wr (some g6)) (fun iv _ => s.size - (intOf iv).toNat)
      case atStart => exact ⟨1, noneD, true, rfl, Nat.le_refl _, by omega, HB4.out, HR0.out, ⟨rfl, rfl, rfl, Nat.le_refl _, fun _ _ _ => rfl⟩⟩
      case round =>
        obtain ⟨i, S, k, rfl, hi1, hi2, hb, hR, hg⟩ := hrel
        have hW2r : wr.heap[g4]? = some (.cells (brL ⟨#[]⟩ false noneD 0 false).toArray 319 (0, 0)) := (hg.block g4 (by have := HLT.out; omega) (fun e => by have := Option.some.inj e; have := HLT.out; omega)).trans HZ4.out
        have hMr : MaxW wr := HM4.out.grown hg (by have := HLT.out; omega)
        by_cases hlt : i < s.size
        · exact absurd hlt (by have : s.size = 1 := hsz; omega)
        · have hiI : ¬ ((i : Int) < (s.size : Int)) := by omega
          have hRn : R = none := by
            rw [← hR]
            have : s.data.toList.drop i = [] := List.drop_of_length_le (by simp; show s.size ≤ i; omega)
            rw [this, brR_nil]
          have hst6 := st_blk hW2r (ys := brL ⟨#[]⟩ false noneD 0 false) ((brL_len _ _ _ _ _).trans (brL_len _ _ _ _ _).symm) (brL_one _ _ _ _ _)
          have hln6 := brL_len ⟨#[]⟩ false noneD 0 false
          have hrow := row_blk hW2r (brL ⟨#[]⟩ false noneD 0 false).toArray
          have hb06 : Below w.heap.size w wr := HB04.out.grown hg HB04.out.size (fun q e => by cases e; have := HLT.out; omega)
          have hb07 : Below w.heap.size w (wr.setRow g4 (brL ⟨#[]⟩ false noneD 0 false).toArray) := hb06.grown (row_grown _ _ _) hb06.size (fun q e => by cases e; have := HLT.out; omega)
          have HROW := hide hrow
          have HB07 := hide hb07
          have HRN := hide hRn
          have hz140 := zero140
          clear hb hR hg hW2r hMr hrow hb06 hb07 hRn
          go_wp2
          refine bodyPost_ret (v := .tuple #[.agg (brL ⟨#[]⟩ false noneD 0 false).toArray, .bool false]) (by rw [results_cell_tmp rfl]; simp [asAddr, Result.andThen, run_loadVar_row _ g4 319 319 _ (0, 0) _ HROW.out Tryz.underlying319 rfl (by rw [Tryz.size319]; simp [brL_len])]) rfl ⟨HB07.out, .inl ⟨by rw [HBR.out, HRN.out] <;> rfl, rfl⟩⟩
    | cons c r' =>
      subst hr
      have h1s : (1 : Int) < (s.size : Int) := by rw [hsz]; simp; omega
      have h1d : decide ((1 : Int) < (s.size : Int)) = true := decide_eq_true h1s
      have hs1 : 1 < s.size := by rw [hsz]; simp
      have hc1 : s[1] = c := by
        have : s.data.toList[1]? = some c := by rw [hl]; rfl
        have h2 : s.data.toList[1]? = some s[1] := List.getElem?_eq_getElem (by simpa using hs1)
        rw [h2] at this
        exact Option.some.inj this
      have hix : ∀ W, Calls Tryz.prog 258 #[.string o, .int .u8 (s[1].toNat : Int)] W fun e w' => e = .returned (.int .i64 (Lib.indexByte o.data.toList c)) ∧ w' = W := by
        intro W
        have := Tryz.strings_IndexByte o (s[1].toNat : Int) W
        have e : ((s[1].toNat : Int)).toNat.toUInt8 = c := by
          rw [hc1]
          simp
        rw [e] at this
        exact this
      have hmem := index_mem o.data.toList c
      obtain ⟨ix, hixe⟩ : ∃ ix, Lib.indexByte o.data.toList c = ix := ⟨_, rfl⟩
      simp only [hixe] at hix hmem
      have hdr2 : s.data.toList.drop 2 = r' := by rw [hl]; rfl
      cases hcon : o.data.toList.contains c with
      | true =>
        have hge : (0 : Int) ≤ ix := by rw [hcon] at hmem; exact of_decide_eq_true hmem
        have hbr : bracketD esc o.data.toList s.data.toList = (brR esc true (s.data.toList.drop 2) noneD true).map (fun p => ⟨fun j => !p.set j, p.known, p.rest⟩) := by
          rw [hdr2, hl]
          show (if turnedD o.data.toList (c :: r') = true then _ else _) = _
          rw [if_pos (show turnedD o.data.toList (c :: r') = true from hcon)]
          rfl
        clear hl hdr1 hdr2 hc1 hmem hixe hcon hsz
        go_wp2_with fail
        go_region_held3 (fun w' => w'.cell? ⟨g6, 0, none⟩ = some (.string o)) (go_keep) (first | (go_at_call 258; refine (hix _).mono ?_; rintro e w5 ⟨rfl, rfl⟩))
        go_wp2
        obtain ⟨R, hR⟩ : ∃ R, brR esc true (s.data.toList.drop 2) noneD true = R := ⟨_, rfl⟩
        rw [hR] at hbr
        have HBR := hide hbr
        have HR0 := hide hR
        clear hbr hR
        go_loopw [7] (fun iv wr => ∃ (i : Nat) (S : BSet) (k : Bool), iv = .int .i64 (i : Int) ∧ 2 ≤ i ∧ i ≤ s.size ∧ BBlk wr g6 319 (brPre o esc) S (brPost 0 k) ∧ brR esc (decide (i = 2)) (s.data.toList.drop i) S k = R ∧ W4.grownBy wr (some g6)) (fun iv _ => s.size - (intOf iv).toNat)
        case atStart => exact ⟨2, noneD, true, rfl, Nat.le_refl _, by omega, HB4.out, HR0.out, ⟨rfl, rfl, rfl, Nat.le_refl _, fun _ _ _ => rfl⟩⟩
        case round =>
          obtain ⟨i, S, k, rfl, hi1, hi2, hb, hR, hg⟩ := hrel
          have hW2r : wr.heap[g4]? = some (.cells (brL ⟨#[]⟩ false noneD 0 false).toArray 319 (0, 0)) := (hg.block g4 (by have := HLT.out; omega) (fun e => by have := Option.some.inj e; have := HLT.out; omega)).trans HZ4.out
          have hMr : MaxW wr := HM4.out.grown hg (by have := HLT.out; omega)
          by_cases hlt : i < s.size
          · have hiI : (i : Int) < (s.size : Int) := by omega
            by_cases hc : s[i] = 93 ∧ 2 < i
            · obtain ⟨h93, hgt⟩ := hc
              have h93I : ((s[i].toNat : Int) == 93) = true := by rw [h93]; rfl
              have hgtI : (2 : Int) < (i : Int) := by omega
              have hRe : R = some ⟨S, k, s.data.toList.drop (i + 1)⟩ := by
                rw [← hR, drop_cons hlt, h93, decide_eq_false (by omega : ¬ i = 2), brR_end]
              have HG := hide hg
              have HRE := hide hRe
              clear hg hRe hR h93
              have htn := turn_any g6 2 319 (brPre o esc) (brPost 0 k) S wr hb rfl
              go_wp2_with fail
              refine htn.mono ?_
              rintro e w5 ⟨rfl, hb5, hg5, _⟩
              clear htn
              have hg05 := HG.out.trans hg5
              have hb6 := hb5.setLen ((i : Int) + 1)
              have hg6 := set_grown w5 g6 258 (.int .i64 ((i : Int) + 1))
              have hln := hb5.len
              have hfz := hb5.frozen 258
              obtain ⟨W6, hW6⟩ : ∃ W6, w5.setCell ⟨g6, 258, none⟩ (.int .i64 ((i : Int) + 1)) = W6 := ⟨_, rfl⟩
              rw [hW6] at hb6 hg6
              have hg46 := hg05.trans hg6
              have hz6 : W6.heap[g4]? = some (.cells (brL ⟨#[]⟩ false noneD 0 false).toArray 319 (0, 0)) := (hg46.block g4 (by have := HLT.out; omega) (fun e => by have := Option.some.inj e; have := HLT.out; omega)).trans HZ4.out
              have hl6 : W6.heap[g6]? = some (.cells (brL o esc (fun j => !S j) ((i : Int) + 1) k).toArray 319 (0, 0)) := hb6
              have hst6 := st_blk hz6 (ys := brL o esc (fun j => !S j) ((i : Int) + 1) k) ((brL_len _ _ _ _ _).trans (brL_len _ _ _ _ _).symm) (brL_one _ _ _ _ _)
              have hln6 := brL_len o esc (fun j => !S j) ((i : Int) + 1) k
              have hrow := row_blk hz6 (brL o esc (fun j => !S j) ((i : Int) + 1) k).toArray
              have hb06 : Below w.heap.size w W6 := HB04.out.grown hg46 HB04.out.size (fun q e => by cases e; have := HLT.out; omega)
              have hb07 : Below w.heap.size w (W6.setRow g4 (brL o esc (fun j => !S j) ((i : Int) + 1) k).toArray) := hb06.grown (row_grown _ _ _) hb06.size (fun q e => by cases e; have := HLT.out; omega)
              have HROW := hide hrow
              have HB07 := hide hb07
              have HL6 := hide hl6
              clear hb hb5 hg05 hb6 hg6 hg46 hz6 hl6 hrow hb06 hb07 hW2r hMr
              go_wp2_with (show wpList _ _ _ (Oper.mk _ (Op.load 319 _) _ _ _ _ :: _) _ _; refine wpList_load_row rfl 319 (.tmp 6) rfl g6 rfl 319 _ (0, 0) _ HL6.out Tryz.underlying319 rfl (by rw [Tryz.size319]; simp [brL_len]) ?_)
              refine bodyPost_ret (v := .tuple #[.agg (brL o esc (fun j => !S j) ((i : Int) + 1) k).toArray, .bool true]) (by rw [results_cell_tmp rfl]; simp [asAddr, Result.andThen, run_loadVar_row _ g4 319 319 _ (0, 0) _ HROW.out Tryz.underlying319 rfl (by rw [Tryz.size319]; simp [brL_len])]) rfl ⟨HB07.out, .inr ?_⟩
              have e1 : s.size - (s.data.toList.drop (i + 1)).length = i + 1 := by simp; show s.size - (s.size - (i + 1)) = i + 1; omega
              have e2 : ((s.size - (s.data.toList.drop (i + 1)).length : Nat) : Int) = (i : Int) + 1 := by rw [e1]; omega
              refine ⟨⟨(fun j => !S j), k, s.data.toList.drop (i + 1)⟩, by rw [HBR.out, HRE.out] <;> rfl, ?_⟩
              rw [e2]
            · have hcI : ∀ (h : True), ((((s[i].toNat : Int) == 93) = false) ∨ ((((s[i].toNat : Int) == 93) = true) ∧ ¬ ((2 : Int) < (i : Int)))) := fun _ => by
                by_cases h93 : s[i] = 93
                · right
                  exact ⟨by rw [h93]; rfl, by intro e; exact hc ⟨h93, by omega⟩⟩
                · left
                  rw [beq_eq_false_iff_ne]
                  intro e
                  exact h93 (UInt8.toNat_inj.1 (by show s[i].toNat = 93; omega))
              have hRp : brR esc false (partD esc (s.data.toList.drop i) S k).rest (partD esc (s.data.toList.drop i) S k).set (partD esc (s.data.toList.drop i) S k).known = R := by
                rw [← hR, drop_cons hlt, brR_part]
                rintro ⟨h93, hd⟩
                exact hc ⟨h93, by have := of_decide_eq_false hd; omega⟩
              have hrp := readPart_any g6 o esc S 0 k s i wr hs hlt hMr hb
              have HG := hide hg
              have HRP := hide hRp
              clear hg hRp hR hb hW2r hMr hc
              rcases hcI trivial with h93I | ⟨h93I, hngt⟩
              · clear hcI
                go_wp2_with (go_at_call 259; refine hrp.mono ?_; rintro e w5 ⟨k', rfl, hk1, hk2, hk3, hb5, hg5⟩)
                go_roundw
                case rel => exact ⟨k', _, _, rfl, by omega, hk2, hb5, by rw [decide_eq_false (by omega : ¬ k' = 2), ← hk3]; exact HRP.out, HG.out.trans hg5⟩
                case measure => simp [intOf]; omega
              · clear hcI
                go_wp2_with (go_at_call 259; refine hrp.mono ?_; rintro e w5 ⟨k', rfl, hk1, hk2, hk3, hb5, hg5⟩)
                go_roundw
                case rel => exact ⟨k', _, _, rfl, by omega, hk2, hb5, by rw [decide_eq_false (by omega : ¬ k' = 2), ← hk3]; exact HRP.out, HG.out.trans hg5⟩
                case measure => simp [intOf]; omega
          · have hiI : ¬ ((i : Int) < (s.size : Int)) := by omega
            have hRn : R = none := by
              rw [← hR]
              have : s.data.toList.drop i = [] := List.drop_of_length_le (by simp; show s.size ≤ i; omega)
              rw [this, brR_nil]
            have hst6 := st_blk hW2r (ys := brL ⟨#[]⟩ false noneD 0 false) ((brL_len _ _ _ _ _).trans (brL_len _ _ _ _ _).symm) (brL_one _ _ _ _ _)
            have hln6 := brL_len ⟨#[]⟩ false noneD 0 false
            have hrow := row_blk hW2r (brL ⟨#[]⟩ false noneD 0 false).toArray
            have hb06 : Below w.heap.size w wr := HB04.out.grown hg HB04.out.size (fun q e => by cases e; have := HLT.out; omega)
            have hb07 : Below w.heap.size w (wr.setRow g4 (brL ⟨#[]⟩ false noneD 0 false).toArray) := hb06.grown (row_grown _ _ _) hb06.size (fun q e => by cases e; have := HLT.out; omega)
            have HROW := hide hrow
            have HB07 := hide hb07
            have HRN := hide hRn
            have hz140 := zero140
            clear hb hR hg hW2r hMr hrow hb06 hb07 hRn
            go_wp2
            refine bodyPost_ret (v := .tuple #[.agg (brL ⟨#[]⟩ false noneD 0 false).toArray, .bool false]) (by rw [results_cell_tmp rfl]; simp [asAddr, Result.andThen, run_loadVar_row _ g4 319 319 _ (0, 0) _ HROW.out Tryz.underlying319 rfl (by rw [Tryz.size319]; simp [brL_len])]) rfl ⟨HB07.out, .inl ⟨by rw [HBR.out, HRN.out] <;> rfl, rfl⟩⟩
      | false =>
        have hge : ¬ ((0 : Int) ≤ ix) := by rw [hcon] at hmem; exact of_decide_eq_false hmem
        have hbr : bracketD esc o.data.toList s.data.toList = brR esc true (s.data.toList.drop 1) noneD true := by
          rw [hdr1, hl]
          show (if turnedD o.data.toList (c :: r') = true then _ else _) = _
          rw [if_neg (by rw [show turnedD o.data.toList (c :: r') = false from hcon]; simp)]
          rfl
        clear hl hdr1 hdr2 hc1 hmem hixe hcon hsz
        go_wp2_with fail
        go_region_held3 (fun w' => w'.cell? ⟨g6, 0, none⟩ = some (.string o)) (go_keep) (first | (go_at_call 258; refine (hix _).mono ?_; rintro e w5 ⟨rfl, rfl⟩))
        go_wp2
        obtain ⟨R, hR⟩ : ∃ R, brR esc true (s.data.toList.drop 1) noneD true = R := ⟨_, rfl⟩
        rw [hR] at hbr
        have HBR := hide hbr
        have HR0 := hide hR
        clear hbr hR
        go_loopw [7] (fun iv wr => ∃ (i : Nat) (S : BSet) (k : Bool), iv = .int .i64 (i : Int) ∧ 1 ≤ i ∧ i ≤ s.size ∧ BBlk wr g6 319 (brPre o esc) S (brPost 0 k) ∧ brR esc (decide (i = 1)) (s.data.toList.drop i) S k = R ∧ W4.grownBy wr (some g6)) (fun iv _ => s.size - (intOf iv).toNat)
        case atStart => exact ⟨1, noneD, true, rfl, Nat.le_refl _, by omega, HB4.out, HR0.out, ⟨rfl, rfl, rfl, Nat.le_refl _, fun _ _ _ => rfl⟩⟩
        case round =>
          obtain ⟨i, S, k, rfl, hi1, hi2, hb, hR, hg⟩ := hrel
          have hW2r : wr.heap[g4]? = some (.cells (brL ⟨#[]⟩ false noneD 0 false).toArray 319 (0, 0)) := (hg.block g4 (by have := HLT.out; omega) (fun e => by have := Option.some.inj e; have := HLT.out; omega)).trans HZ4.out
          have hMr : MaxW wr := HM4.out.grown hg (by have := HLT.out; omega)
          by_cases hlt : i < s.size
          · have hiI : (i : Int) < (s.size : Int) := by omega
            by_cases hc : s[i] = 93 ∧ 1 < i
            · obtain ⟨h93, hgt⟩ := hc
              have h93I : ((s[i].toNat : Int) == 93) = true := by rw [h93]; rfl
              have hgtI : (1 : Int) < (i : Int) := by omega
              have hRe : R = some ⟨S, k, s.data.toList.drop (i + 1)⟩ := by
                rw [← hR, drop_cons hlt, h93, decide_eq_false (by omega : ¬ i = 1), brR_end]
              have HG := hide hg
              have HRE := hide hRe
              clear hg hRe hR h93
              have hb5 := hb
              have hg05 := HG.out
              obtain ⟨w5, hw5⟩ : ∃ w5, w5 = wr := ⟨_, rfl⟩
              subst hw5
              have hb6 := hb5.setLen ((i : Int) + 1)
              have hg6 := set_grown w5 g6 258 (.int .i64 ((i : Int) + 1))
              have hln := hb5.len
              have hfz := hb5.frozen 258
              obtain ⟨W6, hW6⟩ : ∃ W6, w5.setCell ⟨g6, 258, none⟩ (.int .i64 ((i : Int) + 1)) = W6 := ⟨_, rfl⟩
              rw [hW6] at hb6 hg6
              have hg46 := hg05.trans hg6
              have hz6 : W6.heap[g4]? = some (.cells (brL ⟨#[]⟩ false noneD 0 false).toArray 319 (0, 0)) := (hg46.block g4 (by have := HLT.out; omega) (fun e => by have := Option.some.inj e; have := HLT.out; omega)).trans HZ4.out
              have hl6 : W6.heap[g6]? = some (.cells (brL o esc S ((i : Int) + 1) k).toArray 319 (0, 0)) := hb6
              have hst6 := st_blk hz6 (ys := brL o esc S ((i : Int) + 1) k) ((brL_len _ _ _ _ _).trans (brL_len _ _ _ _ _).symm) (brL_one _ _ _ _ _)
              have hln6 := brL_len o esc S ((i : Int) + 1) k
              have hrow := row_blk hz6 (brL o esc S ((i : Int) + 1) k).toArray
              have hb06 : Below w.heap.size w W6 := HB04.out.grown hg46 HB04.out.size (fun q e => by cases e; have := HLT.out; omega)
              have hb07 : Below w.heap.size w (W6.setRow g4 (brL o esc S ((i : Int) + 1) k).toArray) := hb06.grown (row_grown _ _ _) hb06.size (fun q e => by cases e; have := HLT.out; omega)
              have HROW := hide hrow
              have HB07 := hide hb07
              have HL6 := hide hl6
              clear hb hb5 hg05 hb6 hg6 hg46 hz6 hl6 hrow hb06 hb07 hW2r hMr
              go_wp2_with (show wpList _ _ _ (Oper.mk _ (Op.load 319 _) _ _ _ _ :: _) _ _; refine wpList_load_row rfl 319 (.tmp 6) rfl g6 rfl 319 _ (0, 0) _ HL6.out Tryz.underlying319 rfl (by rw [Tryz.size319]; simp [brL_len]) ?_)
              refine bodyPost_ret (v := .tuple #[.agg (brL o esc S ((i : Int) + 1) k).toArray, .bool true]) (by rw [results_cell_tmp rfl]; simp [asAddr, Result.andThen, run_loadVar_row _ g4 319 319 _ (0, 0) _ HROW.out Tryz.underlying319 rfl (by rw [Tryz.size319]; simp [brL_len])]) rfl ⟨HB07.out, .inr ?_⟩
              have e1 : s.size - (s.data.toList.drop (i + 1)).length = i + 1 := by simp; show s.size - (s.size - (i + 1)) = i + 1; omega
              have e2 : ((s.size - (s.data.toList.drop (i + 1)).length : Nat) : Int) = (i : Int) + 1 := by rw [e1]; omega
              refine ⟨⟨S, k, s.data.toList.drop (i + 1)⟩, by rw [HBR.out, HRE.out] <;> rfl, ?_⟩
              rw [e2]
            · have hcI : ∀ (h : True), ((((s[i].toNat : Int) == 93) = false) ∨ ((((s[i].toNat : Int) == 93) = true) ∧ ¬ ((1 : Int) < (i : Int)))) := fun _ => by
                by_cases h93 : s[i] = 93
                · right
                  exact ⟨by rw [h93]; rfl, by intro e; exact hc ⟨h93, by omega⟩⟩
                · left
                  rw [beq_eq_false_iff_ne]
                  intro e
                  exact h93 (UInt8.toNat_inj.1 (by show s[i].toNat = 93; omega))
              have hRp : brR esc false (partD esc (s.data.toList.drop i) S k).rest (partD esc (s.data.toList.drop i) S k).set (partD esc (s.data.toList.drop i) S k).known = R := by
                rw [← hR, drop_cons hlt, brR_part]
                rintro ⟨h93, hd⟩
                exact hc ⟨h93, by have := of_decide_eq_false hd; omega⟩
              have hrp := readPart_any g6 o esc S 0 k s i wr hs hlt hMr hb
              have HG := hide hg
              have HRP := hide hRp
              clear hg hRp hR hb hW2r hMr hc
              rcases hcI trivial with h93I | ⟨h93I, hngt⟩
              · clear hcI
                go_wp2_with (go_at_call 259; refine hrp.mono ?_; rintro e w5 ⟨k', rfl, hk1, hk2, hk3, hb5, hg5⟩)
                go_roundw
                case rel => exact ⟨k', _, _, rfl, by omega, hk2, hb5, by rw [decide_eq_false (by omega : ¬ k' = 1), ← hk3]; exact HRP.out, HG.out.trans hg5⟩
                case measure => simp [intOf]; omega
              · clear hcI
                go_wp2_with (go_at_call 259; refine hrp.mono ?_; rintro e w5 ⟨k', rfl, hk1, hk2, hk3, hb5, hg5⟩)
                go_roundw
                case rel => exact ⟨k', _, _, rfl, by omega, hk2, hb5, by rw [decide_eq_false (by omega : ¬ k' = 1), ← hk3]; exact HRP.out, HG.out.trans hg5⟩
                case measure => simp [intOf]; omega
          · have hiI : ¬ ((i : Int) < (s.size : Int)) := by omega
            have hRn : R = none := by
              rw [← hR]
              have : s.data.toList.drop i = [] := List.drop_of_length_le (by simp; show s.size ≤ i; omega)
              rw [this, brR_nil]
            have hst6 := st_blk hW2r (ys := brL ⟨#[]⟩ false noneD 0 false) ((brL_len _ _ _ _ _).trans (brL_len _ _ _ _ _).symm) (brL_one _ _ _ _ _)
            have hln6 := brL_len ⟨#[]⟩ false noneD 0 false
            have hrow := row_blk hW2r (brL ⟨#[]⟩ false noneD 0 false).toArray
            have hb06 : Below w.heap.size w wr := HB04.out.grown hg HB04.out.size (fun q e => by cases e; have := HLT.out; omega)
            have hb07 : Below w.heap.size w (wr.setRow g4 (brL ⟨#[]⟩ false noneD 0 false).toArray) := hb06.grown (row_grown _ _ _) hb06.size (fun q e => by cases e; have := HLT.out; omega)
            have HROW := hide hrow
            have HB07 := hide hb07
            have HRN := hide hRn
            have hz140 := zero140
            clear hb hR hg hW2r hMr hrow hb06 hb07 hRn
            go_wp2
            refine bodyPost_ret (v := .tuple #[.agg (brL ⟨#[]⟩ false noneD 0 false).toArray, .bool false]) (by rw [results_cell_tmp rfl]; simp [asAddr, Result.andThen, run_loadVar_row _ g4 319 319 _ (0, 0) _ HROW.out Tryz.underlying319 rfl (by rw [Tryz.size319]; simp [brL_len])]) rfl ⟨HB07.out, .inl ⟨by rw [HBR.out, HRN.out] <;> rfl, rfl⟩⟩
end Go.Proofs.YtfemboojdablhaaGreatDoor
