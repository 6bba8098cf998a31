import Derived.Test.YtfemboojdablhaaGreatDoorMi11
import Derived.Test.YtfemboojdablhaaGreatDoorMi13
import Derived.Test.YtfemboojdablhaaGreatDoorMi14
namespace Go.Proofs.YtfemboojdablhaaGreatDoor
open Go.RowKit Go.Maps
theorem drop_cons {s : ByteArray} {i : Nat} (h : i < s.size) : s.data.toList.drop i = s[i] :: s.data.toList.drop (i + 1) := List.drop_eq_getElem_cons (by simpa using h)
theorem item_at (esc : Bool) (s : ByteArray) (i : Nat) (h : i < s.size) : (∀ (h1 : i + 1 < s.size), esc = true → s[i] = 92 → itemD esc (s.data.toList.drop i) = (s[i + 1], s.data.toList.drop (i + 2))) ∧ (¬ (esc = true ∧ s[i] = 92 ∧ i + 1 < s.size) → itemD esc (s.data.toList.drop i) = (s[i], s.data.toList.drop (i + 1))) := by
  constructor
  · intro h1 he h92
    rw [drop_cons h, drop_cons h1, itemD, if_pos ⟨he, h92⟩]
  · intro hn
    rw [drop_cons h]
    by_cases h1 : i + 1 < s.size
    · rw [drop_cons h1, itemD, if_neg (fun hh => hn ⟨hh.1, hh.2, h1⟩)]
    · have : s.data.toList.drop (i + 1) = [] := List.drop_of_length_le (by simp; show s.size ≤ i + 1; omega)
      rw [this]
      rfl
set_option maxRecDepth 100000 in
set_option maxHeartbeats 1000000 in
theorem readItem_any (g : Nat) (esc : Bool) (s : ByteArray) (i : Nat) (w : World) (hs : s.size ≤ 1000000000) (hi : i < s.size) (he : w.cell? ⟨g, 1, none⟩ = some (.bool esc)) :
    Calls Tryz.prog 282 #[.pointer (some ⟨g, 0, none⟩), .string s, .int .i64 (i : Int)] w fun e w' => w' = w ∧ ∃ j : Nat, i ≤ j ∧ ∃ hj : j < s.size, e = .returned (.tuple #[.int .u8 (s[j].toNat : Int), .int .i64 ((j + 1 : Nat) : Int)]) ∧ itemD esc (s.data.toList.drop i) = (s[j], s.data.toList.drop (j + 1)) := by
  have hiI : (i : Int) < (s.size : Int) := by omega
  have hat := item_at esc s i hi
  by_cases hc : esc = true ∧ s[i] = 92 ∧ i + 1 < s.size
  · obtain ⟨rfl, h92, h1⟩ := hc
    have hit := hat.1 h1 rfl h92
    have h1I : ((i : Int) + 1 < (s.size : Int)) := by omega
    have h92I : ((s[i].toNat : Int) == 92) = true := by rw [h92]; rfl
    have HIT := hide hit
    clear hit hat h92
    go_enter Tryz.func282, Tryz.ntmps282
    go_wp2
    refine bodyPost_ret (v := .tuple #[.int .u8 (s[i + 1].toNat : Int), .int .i64 ((i + 1 + 1 : Nat) : Int)]) (by simp [results, Tryz.results282, go_sem]) rfl ⟨rfl, i + 1, by omega, h1, rfl, HIT.out⟩
  · have hit := hat.2 hc
    have HIT := hide hit
    clear hit hat
    cases esc with
    | false =>
      clear hc
      go_enter Tryz.func282, Tryz.ntmps282
      go_wp2
      exact bodyPost_ret (v := .tuple #[.int .u8 (s[i].toNat : Int), .int .i64 ((i + 1 : Nat) : Int)]) (by simp [results, Tryz.results282, go_sem]) rfl ⟨rfl, i, Nat.le_refl _, hi, rfl, HIT.out⟩
    | true =>
      by_cases h92 : s[i] = 92
      · have h1 : ¬ ((i : Int) + 1 < (s.size : Int)) := by
          intro h
          exact hc ⟨rfl, h92, by omega⟩
        have h92I : ((s[i].toNat : Int) == 92) = true := by rw [h92]; rfl
        clear hc h92
        go_enter Tryz.func282, Tryz.ntmps282
        go_wp2
        exact bodyPost_ret (v := .tuple #[.int .u8 (s[i].toNat : Int), .int .i64 ((i + 1 : Nat) : Int)]) (by simp [results, Tryz.results282, go_sem]) rfl ⟨rfl, i, Nat.le_refl _, hi, rfl, HIT.out⟩
      · have h92I : ((s[i].toNat : Int) == 92) = false := by
          rw [beq_eq_false_iff_ne]
          intro e
          exact h92 (UInt8.toNat_inj.1 (by show s[i].toNat = 92; omega))
        clear hc h92
        go_enter Tryz.func282, Tryz.ntmps282
        go_wp2
        exact bodyPost_ret (v := .tuple #[.int .u8 (s[i].toNat : Int), .int .i64 ((i + 1 : Nat) : Int)]) (by simp [results, Tryz.results282, go_sem]) rfl ⟨rfl, i, Nat.le_refl _, hi, rfl, HIT.out⟩
theorem class_look {B : Nat} {W : World} {bm n : Nat} {D : DataW Unit} (h : W.ownsMap Tryz.prog 9 fnRd bm n D) (hg : MapGood B W D) (hh : ∀ nm, has D (lt nm) = (classD nm).isSome) (key : ByteArray) (hs : key.size ≤ maxLen) :
    ∃ v, (Instr.lookup 376 (.map (some bm)) (.string key) true).run Tryz.prog W = .ok (.tuple #[v, .bool (classD key.data.toList).isSome]) W ∧ ∀ f, classD key.data.toList = some f → FnIs B W v f := by
  have hkey : keyOf Tryz.prog 9 (.string key) = some (lt key.data.toList) := WideMaps.keyOf_string_mk (P := Tryz.prog) Tryz.underlying9' hs
  obtain ⟨v, ps, hrun, hv⟩ := h.look_ok lawS (show Tryz.prog.underlying 376 = some (.map 9 148) by kernel_rfl) (Tryz.zeroValue148 W) (zd := .lit (.int .i64 0)) (zp := []) rfl hkey
  rw [hh] at hrun
  refine ⟨v, hrun, fun f hf => ?_⟩
  obtain ⟨f', v', d, h1, h2, h3, h4⟩ := hg.good key.data.toList (by rw [hh, hf]; rfl)
  rw [hf] at h1
  cases h1
  rw [h3] at hv
  rw [fnRd_inj hv h2]
  exact h4
theorem sub_list (s : ByteArray) (i : Nat) : (s.extract i s.size).data.toList = s.data.toList.drop i := by
  rw [ByteArray.data_extract, Array.toList_extract]
  show (s.data.toList.drop i).take (s.size - i) = _
  exact List.take_of_length_le (by simp)
theorem grownSome {w w' : World} {g : Nat} (h : Below w.heap.size w w') : w.grownBy w' (some g) := ⟨h.os, h.tape, h.output, h.size, fun k hk _ => h.block k hk⟩
theorem MaxW.grown {w w' : World} {g : Nat} (h : MaxW w) (hg : w.grownBy w' (some g)) (h1 : g ≠ 9) : MaxW w' := by
  obtain ⟨m, hm⟩ := h
  exact ⟨m, hg.cell hm (fun e => h1 (Option.some.inj e).symm)⟩
def brPre (o : ByteArray) (esc : Bool) : List Value := [.string o, .bool esc]
def brPost (n : Int) (k : Bool) : List Value := [.int .i64 n, .bool k]
theorem app3_get {a b c : List Value} (ha : a.length = 2) (hb : b.length = 256) (j : Nat) : (a ++ (b ++ c))[258 + j]? = c[j]? := by
  rw [List.getElem?_append_right (by omega), List.getElem?_append_right (by omega)]
  congr 1
  omega
theorem app3_set {a b c : List Value} (ha : a.length = 2) (hb : b.length = 256) (j : Nat) (u : Value) : (a ++ (b ++ c)).set (258 + j) u = a ++ (b ++ c.set j u) := by
  rw [List.set_append_right _ _ (by omega), List.set_append_right _ _ (by omega)]
  congr 3
  omega
theorem BBlk.known {W : World} {g : Nat} {o : ByteArray} {esc : Bool} {S : BSet} {n : Int} {k : Bool} (h : BBlk W g 319 (brPre o esc) S (brPost n k)) : W.cell? ⟨g, 259, none⟩ = some (.bool k) := by
  unfold BBlk at h
  simp only [World.cell?, h]
  show (brPre o esc ++ (bitsL S ++ brPost n k)).toArray[258 + 1]? = _
  rw [List.getElem?_toArray, app3_get rfl (bitsL_len S)]
  rfl
theorem BBlk.esc {W : World} {g : Nat} {o : ByteArray} {esc : Bool} {S : BSet} {post : List Value} (h : BBlk W g 319 (brPre o esc) S post) : W.cell? ⟨g, 1, none⟩ = some (.bool esc) := by
  unfold BBlk at h
  simp only [World.cell?, h]
  rfl
theorem BBlk.len {W : World} {g : Nat} {o : ByteArray} {esc : Bool} {S : BSet} {n : Int} {k : Bool} (h : BBlk W g 319 (brPre o esc) S (brPost n k)) : W.cell? ⟨g, 258, none⟩ = some (.int .i64 n) := by
  unfold BBlk at h
  simp only [World.cell?, h]
  show (brPre o esc ++ (bitsL S ++ brPost n k)).toArray[258 + 0]? = _
  rw [List.getElem?_toArray, app3_get rfl (bitsL_len S)]
  rfl
theorem BBlk.setKnown {W : World} {g : Nat} {o : ByteArray} {esc : Bool} {S : BSet} {n : Int} {k : Bool} (h : BBlk W g 319 (brPre o esc) S (brPost n k)) (b : Bool) : BBlk (W.setCell ⟨g, 259, none⟩ (.bool b)) g 319 (brPre o esc) S (brPost n b) := by
  have h2 := blk_set (i := 258 + 1) h (.bool b)
  rw [app3_set rfl (bitsL_len S)] at h2
  exact h2
theorem BBlk.setLen {W : World} {g : Nat} {o : ByteArray} {esc : Bool} {S : BSet} {n : Int} {k : Bool} (h : BBlk W g 319 (brPre o esc) S (brPost n k)) (b : Int) : BBlk (W.setCell ⟨g, 258, none⟩ (.int .i64 b)) g 319 (brPre o esc) S (brPost b k) := by
  have h2 := blk_set (i := 258 + 0) h (.int .i64 b)
  rw [app3_set rfl (bitsL_len S)] at h2
  exact h2
set_option maxRecDepth 100000 in
set_option maxHeartbeats 2000000 in
theorem readPart_any (g : Nat) (o : ByteArray) (esc : Bool) (S : BSet) (n : Int) (kn : Bool) (s : ByteArray) (i : Nat) (w : World) (hs : s.size ≤ 1000000000) (hi : i < s.size) (hM : MaxW w) (hB : BBlk w g 319 (brPre o esc) S (brPost n kn)) :
    Calls Tryz.prog 259 #[.pointer (some ⟨g, 0, none⟩), .string s, .int .i64 (i : Int)] w fun e w' => ∃ k : Nat, e = .returned (.int .i64 (k : Int)) ∧ i < k ∧ k ≤ s.size ∧ (partD esc (s.data.toList.drop i) S kn).rest = s.data.toList.drop k ∧ BBlk w' g 319 (brPre o esc) (partD esc (s.data.toList.drop i) S kn).set (brPost n (partD esc (s.data.toList.drop i) S kn).known) ∧ w.grownBy w' (some g) := by
  have hiI : (i : Int) < (s.size : Int) := by omega
  have hsub := sub_list s i
  have hglt := hB.lt
  have hsubs : (s.extract i s.size).size ≤ 1000000000 := by
    show (s.extract i s.size).data.size ≤ _
    rw [← Array.length_toList, hsub]
    simp
    omega
  have hcn := className_any (s.extract i s.size) w hsubs hM
  rw [hsub] at hcn
  obtain ⟨l, hl⟩ : ∃ l, s.data.toList.drop i = l := ⟨_, rfl⟩
  have hlen : l.length = s.size - i := by rw [← hl]; simp
  rw [hl] at hcn
  have han := ask_name l
  cases hask : askB l with
  | true =>
    rw [hask] at hcn
    have hcl := han.1 hask
    have hnl := className_len hcl
    obtain ⟨nm, hnm⟩ : ∃ nm : ByteArray, nm = ⟨(nameB l).toArray⟩ := ⟨_, rfl⟩
    have hnml : nm.data.toList = nameB l := by rw [hnm]
    have hnms : nm.size = (nameB l).length := by rw [hnm]; show (nameB l).toArray.size = _; simp
    rw [← hnm] at hcn
    have hfin : l.drop ((nameB l).length + 4) = s.data.toList.drop (i + 4 + nm.size) := by
      rw [hnms, ← hl, List.drop_drop]
      congr 1
      omega
    have hnmb : nm.size ≤ 1000000000 := by omega
    rw [hl]
    have hP : partD esc l S kn = (match classD (nameB l) with | some f => ⟨orD S f, kn, l.drop ((nameB l).length + 4)⟩ | none => ⟨S, false, l.drop ((nameB l).length + 4)⟩) := by
      unfold partD
      rw [hcl]
      rfl
    have hke : i + 4 + nm.size ≤ s.size := by omega
    have HP := hide hP
    have HF := hide hfin
    have HNML := hide hnml
    clear hnm hP hfin hnml hnms hnl hcl han hask hlen
    go_enter Tryz.func259, Tryz.ntmps259
    go_wp2_with fail
    refine hcn.mono ?_
    rintro e w1 ⟨rfl, b1⟩
    clear hcn
    have hcs := classes_any w1
    go_wp2_with fail
    refine hcs.mono ?_
    rintro e w2 ⟨bm, q, D, rfl, hbm, hown, hgood, hhas, b2⟩
    clear hcs
    obtain ⟨v, hlk, hv⟩ := class_look hown hgood hhas nm (by unfold maxLen; omega)
    rw [HNML.out] at hlk hv
    have b02 : Below w.heap.size w w2 := b1.trans (b2.mono b1.size)
    have hg02 : w.grownBy w2 (some g) := grownSome b02
    have hB2 : BBlk w2 g 319 (brPre o esc) S (brPost n kn) := (b02.block g hglt).trans hB
    have hz1 := b1.size
    cases hcd : classD (nameB l) with
    | some f =>
      rw [hcd] at hlk
      have hac := addClass_any w1.heap.size g 2 319 (brPre o esc) (brPost n kn) S v f w2 hB2 rfl (hv f hcd) (by omega)
      obtain ⟨vn, vlb, rfl⟩ := (hv f hcd).form
      have HG := hide hg02
      clear hown hgood hhas b2 b02 hg02 hB2 hv hB b1 hM
      go_wp2_with (go_at_call 281; refine hac.mono ?_; rintro e w3 ⟨rfl, hB3, hg3, _⟩)
      go_ret
      have hP := HP.out
      rw [hcd] at hP
      refine ⟨i + 4 + nm.size, by simp, by omega, hke, ?_, ?_, HG.out.trans hg3⟩
      · rw [hP]; exact HF.out
      · rw [hP]; exact hB3
    | none =>
      rw [hcd] at hlk
      have hk1 := hB2.known
      have hk2 := hB2.frozen 259
      have hB3 := hB2.setKnown false
      have hg3 := set_grown w2 g 259 (.bool false)
      have HG := hide (hg02.trans hg3)
      have HB3 := hide hB3
      clear hown hgood hhas b2 b02 hg02 hB2 hv hB b1 hM hB3 hg3
      go_wp2
      go_ret
      have hP := HP.out
      rw [hcd] at hP
      refine ⟨i + 4 + nm.size, by simp, by omega, hke, ?_, ?_, HG.out⟩
      · rw [hP]; exact HF.out
      · rw [hP]; exact HB3.out
  | false =>
    rw [hask] at hcn
    have hcl := han.2 hask
    rw [hl]
    have hP : partD esc l S kn = (if rangeD (itemD esc l).2 = true then
        ⟨orD S (spanD (itemD esc l).1.toNat (itemD esc (itemD esc l).2.tail).1.toNat), kn, (itemD esc (itemD esc l).2.tail).2⟩
      else ⟨orD S (spanD (itemD esc l).1.toNat (itemD esc l).1.toNat), kn, (itemD esc l).2⟩) := by
      unfold partD
      rw [hcl]
    have HP := hide hP
    clear hP hcl han hask hlen
    go_enter Tryz.func259, Tryz.ntmps259
    go_wp2_with fail
    refine hcn.mono ?_
    rintro e w1 ⟨rfl, b1⟩
    clear hcn
    have hB1 : BBlk w1 g 319 (brPre o esc) S (brPost n kn) := (b1.block g hglt).trans hB
    have hg1 : w.grownBy w1 (some g) := grownSome b1
    have hri := readItem_any g esc s i w1 hs hi hB1.esc
    rw [hl] at hri
    clear hB b1 hM
    have HB1 := hide hB1
    have HG1 := hide hg1
    clear hB1 hg1
    go_wp2_with fail
    refine hri.mono ?_
    rintro e w2 ⟨hw2, j, hij, hj, rfl, hit⟩
    rw [hw2]
    clear hw2 w2 hri
    have hlo := s[j].toNat_lt
    have hP := HP.out
    rw [hit] at hP
    simp only at hP
    have HP2 := hide hP
    clear hP HP hit
    have jc : ((j + 1 : Nat) : Int) = (j : Int) + 1 := by omega
    simp only [jc]
    clear jc
    by_cases hr : ∃ (h2 : j + 2 < s.size), s[j + 1] = 45 ∧ s[j + 2] ≠ 93
    · obtain ⟨h2, h45, h93⟩ := hr
      have h2I : (j : Int) + 1 + 1 < (s.size : Int) := by omega
      have h1I : (j : Int) + 1 < (s.size : Int) := by omega
      have h45I : ((s[j + 1].toNat : Int) == 45) = true := by rw [h45]; rfl
      have h2' : j + 1 + 1 < s.size := h2
      have h93n : s[j + 1 + 1] ≠ 93 := h93
      have h93I : ((s[j + 1 + 1].toNat : Int) == 93) = false := by
        rw [beq_eq_false_iff_ne]
        intro e
        exact h93n (UInt8.toNat_inj.1 (by show s[j + 1 + 1].toNat = 93; omega))
      clear h93n
      have hrd : rangeD (s.data.toList.drop (j + 1)) = true := by
        rw [drop_cons (by omega : j + 1 < s.size), drop_cons h2]
        simp [rangeD, h45, h93]
      have htl : (s.data.toList.drop (j + 1)).tail = s.data.toList.drop (j + 2) := by rw [List.tail_drop]
      have hP := HP2.out
      rw [if_pos hrd, htl] at hP
      have hri2 := readItem_any g esc s (j + 2) w1 hs h2 HB1.out.esc
      have e2 : ((j + 2 : Nat) : Int) = (j : Int) + 1 + 1 := by omega
      rw [e2] at hri2
      have HP3 := hide hP
      clear hP HP2 hrd htl h45 h93 e2
      go_wp2_with fail
      refine hri2.mono ?_
      rintro e w2 ⟨hw2, k, hjk, hk, rfl, hit⟩
      rw [hw2]
      clear hw2 w2 hri2
      have hhi := s[k].toNat_lt
      have hP := HP3.out
      rw [hit] at hP
      simp only at hP
      have HP4 := hide hP
      clear hP HP3 hit
      have ha := add_set g 2 319 (brPre o esc) (brPost n kn) S s[j].toNat s[k].toNat w1 HB1.out rfl hlo hhi
      go_wp2_with (go_at_call 283; refine ha.mono ?_; rintro e w3 ⟨rfl, hB3, hg3, _⟩)
      go_ret
      have hP := HP4.out
      refine ⟨k + 1, by simp, by omega, by omega, by rw [hP], by rw [hP]; exact hB3, HG1.out.trans hg3⟩
    · have hrd : rangeD (s.data.toList.drop (j + 1)) = false := by
        by_cases h1 : j + 1 < s.size
        · rw [drop_cons h1]
          by_cases h2 : j + 2 < s.size
          · rw [drop_cons h2]
            show (s[j + 1] == 45 && s[j + 2] != 93) = false
            rw [Bool.and_eq_false_iff]
            by_cases h45 : s[j + 1] = 45
            · right
              have : s[j + 2] = 93 := by
                by_cases h93 : s[j + 2] = 93
                · exact h93
                · exact absurd ⟨h2, h45, h93⟩ hr
              rw [this]
              rfl
            · left
              simpa using h45
          · have : s.data.toList.drop (j + 1 + 1) = [] := List.drop_of_length_le (by simp; show s.size ≤ j + 1 + 1; omega)
            rw [this]
            rfl
        · have : s.data.toList.drop (j + 1) = [] := List.drop_of_length_le (by simp; show s.size ≤ j + 1; omega)
          rw [this]
          rfl
      have hP := HP2.out
      rw [if_neg (by rw [hrd]; simp)] at hP
      have HP4 := hide hP
      clear hP HP2 hrd
      have ha := add_set g 2 319 (brPre o esc) (brPost n kn) S s[j].toNat s[j].toNat w1 HB1.out rfl hlo hlo
      have HR := hide hr
      clear hr
      by_cases h2 : j + 2 < s.size
      · have h2I : (j : Int) + 1 + 1 < (s.size : Int) := by omega
        have h1I : (j : Int) + 1 < (s.size : Int) := by omega
        by_cases h45 : s[j + 1] = 45
        · have h93 : s[j + 2] = 93 := by
            by_cases h93 : s[j + 2] = 93
            · exact h93
            · exact absurd ⟨h2, h45, h93⟩ HR.out
          have h45I : ((s[j + 1].toNat : Int) == 45) = true := by rw [h45]; rfl
          have h2' : j + 1 + 1 < s.size := h2
          have h93' : s[j + 1 + 1] = 93 := h93
          have h93I : ((s[j + 1 + 1].toNat : Int) == 93) = true := by rw [h93']; rfl
          clear h45 h93 h93'
          go_wp2_with (go_at_call 283; refine ha.mono ?_; rintro e w3 ⟨rfl, hB3, hg3, _⟩)
          go_ret
          have hP := HP4.out
          refine ⟨j + 1, by simp, by omega, by omega, by rw [hP], by rw [hP]; exact hB3, HG1.out.trans hg3⟩
        · have h45I : ((s[j + 1].toNat : Int) == 45) = false := by
            rw [beq_eq_false_iff_ne]
            intro e
            exact h45 (UInt8.toNat_inj.1 (by show s[j + 1].toNat = 45; omega))
          clear h45
          go_wp2_with (go_at_call 283; refine ha.mono ?_; rintro e w3 ⟨rfl, hB3, hg3, _⟩)
          go_ret
          have hP := HP4.out
          refine ⟨j + 1, by simp, by omega, by omega, by rw [hP], by rw [hP]; exact hB3, HG1.out.trans hg3⟩
      · have h2I : ¬ ((j : Int) + 1 + 1 < (s.size : Int)) := by omega
        go_wp2_with (go_at_call 283; refine ha.mono ?_; rintro e w3 ⟨rfl, hB3, hg3, _⟩)
        go_ret
        have hP := HP4.out
        refine ⟨j + 1, by simp, by omega, by omega, by rw [hP], by rw [hP]; exact hB3, HG1.out.trans hg3⟩
end Go.Proofs.YtfemboojdablhaaGreatDoor
