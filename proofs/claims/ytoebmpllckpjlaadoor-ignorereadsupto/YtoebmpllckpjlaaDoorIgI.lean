/- The document's ruleOf. -/
import Derived.Test.YtoebmpllckpjlaaDoorIgH
import Derived.Test.YtoebmpllckpjlaaDoorIgD
import Derived.Test.YtoebmpllckpjlaaDoorGrD
import Derived.Deep.Cut
namespace Go.Proofs.YtoebmpllckpjlaaDoor
open Go.RowKit Go.Maps

theorem pre_hit (c : UInt8) (t : List UInt8) : Lib.hasPrefix (c :: t) [c] = true ∧ Lib.trimPrefix (c :: t) [c] = t := by simp [Lib.hasPrefix, Lib.trimPrefix]
theorem pre_miss (c x : UInt8) (t : List UInt8) (h : x ≠ c) : Lib.hasPrefix (x :: t) [c] = false ∧ Lib.trimPrefix (x :: t) [c] = x :: t := by
  have : (c == x) = false := beq_eq_false_iff_ne.2 (fun e => h e.symm)
  simp [Lib.hasPrefix, Lib.trimPrefix, List.isPrefixOf, this]
theorem pre_nil (c : UInt8) : Lib.hasPrefix [] [c] = false ∧ Lib.trimPrefix [] [c] = [] := by simp [Lib.hasPrefix, Lib.trimPrefix, List.isPrefixOf]
theorem suf_hit (c : UInt8) (t : List UInt8) : Lib.hasSuffix (t ++ [c]) [c] = true ∧ Lib.trimSuffix (t ++ [c]) [c] = t := by
  have : Lib.hasSuffix (t ++ [c]) [c] = true := by
    unfold Lib.hasSuffix
    rw [List.isSuffixOf_iff_suffix]
    exact List.suffix_append _ _
  refine ⟨this, ?_⟩
  unfold Lib.trimSuffix
  rw [this]
  simp
theorem suf_miss (c x : UInt8) (t : List UInt8) (h : x ≠ c) : Lib.hasSuffix (t ++ [x]) [c] = false ∧ Lib.trimSuffix (t ++ [x]) [c] = t ++ [x] := by
  have : Lib.hasSuffix (t ++ [x]) [c] = false := by
    rw [Bool.eq_false_iff]
    intro hh
    unfold Lib.hasSuffix at hh
    rw [List.isSuffixOf_iff_suffix] at hh
    obtain ⟨p, hp⟩ := hh
    have := congrArg List.getLast? hp
    simp at this
    exact h this.symm
  refine ⟨this, ?_⟩
  unfold Lib.trimSuffix
  rw [this]
  simp
theorem suf_nil (c : UInt8) : Lib.hasSuffix [] [c] = false ∧ Lib.trimSuffix [] [c] = [] := by simp [Lib.hasSuffix, Lib.trimSuffix, List.isSuffixOf]
theorem fx_eq (l : List UInt8) : decide (1 < (cutS 47 (bs l)).length) = decide (0 ≤ Lib.indexByte l 47) := by
  have e : (cutS 47 (bs l)).length = (splitL 47 l).length := by unfold cutS; rw [List.length_map, data_bs]
  rw [e]
  rcases idx_cases 47 l with ⟨h1, h2⟩ | ⟨p, r, rfl, h2, h3⟩
  · rw [split_end 47 l h2, h1]; rfl
  · rw [split_hit 47 p r h2, h3, decide_eq_true, decide_eq_true]
    · omega
    · have := split_ne 47 r
      rw [List.length_cons]
      have : 0 < (splitL 47 r).length := List.length_pos_iff.2 this
      omega
def RB (t : TypeId) (W : World) (z : Nat) (r : RuleD) : Prop := W.heap[z]? = some (.cells #[.bool r.nt, .bool r.dr, .bool r.fx, .string r.pt] t (0, 0))
theorem RB.cells {t : TypeId} {W : World} {z : Nat} {r : RuleD} (h : RB t W z r) : W.cell? ⟨z, 0, none⟩ = some (.bool r.nt) ∧ W.cell? ⟨z, 1, none⟩ = some (.bool r.dr) ∧ W.cell? ⟨z, 2, none⟩ = some (.bool r.fx) ∧ W.cell? ⟨z, 3, none⟩ = some (.string r.pt) ∧ ∀ j, W.frozen? ⟨z, j, none⟩ = false := by
  unfold RB at h
  simp [World.cell?, World.frozen?, h]
theorem RB.set {t : TypeId} {W : World} {z : Nat} {cs : Array Value} (h : W.heap[z]? = some (.cells cs t (0, 0))) (j : Nat) (v : Value) : (W.setCell ⟨z, j, none⟩ v).heap[z]? = some (.cells (cs.set! j v) t (0, 0)) := by
  obtain ⟨hlt, hk⟩ := Array.getElem?_eq_some_iff.1 h
  show (W.heap.modify z _)[z]? = _
  rw [Array.getElem?_eq_getElem (by rw [Array.size_modify]; exact hlt), Array.getElem_modify_self, hk]
  rfl
theorem Tryd.zero38 (w : World) : (zeroValue 38).run Tryd.prog w = .ok (.agg #[.bool false, .bool false, .bool false, .string ⟨#[]⟩]) w := by kernel_rfl
theorem rule_ret38 {W : World} {a : Act} {z : Nat} {r : RuleD} {b : Bool} {R : Ending → World → Prop} (h : RB 38 W z r) (h2 : a.tmps[2]? = some (.pointer (some ⟨z, 0, none⟩))) (h3 : a.tmps[3]? = some (.bool b)) (hd : a.defers = []) (hR : R (.returned (.tuple #[ruleV r, .bool b])) W) : bodyPost Tryd.prog Tryd.f11 R .ret a W := by
  obtain ⟨c0, c1, c2, c3, _⟩ := h.cells
  refine bodyPost_ret (v := .tuple #[ruleV r, .bool b]) ?_ hd hR
  simp [results, Tryd.results11, go_sem, h2, h3, c0, c1, c2, c3, ruleV]
def RefPost (o : Option RuleD) (B : Nat) (w : World) (e : Ending) (w' : World) : Prop := (∃ r' ok, e = .returned (.tuple #[ruleV r', .bool ok]) ∧ (o = none → ok = false) ∧ ∀ r, o = some r → ok = true ∧ r' = r) ∧ Below B w w'
theorem rb_none {w W : World} (hR : RB 38 W w.heap.size noRule) (hal : Below w.heap.size w W) : RB 38 ((((W.setCell ⟨w.heap.size, 0, none⟩ (.bool false)).setCell ⟨w.heap.size, 1, none⟩ (.bool false)).setCell ⟨w.heap.size, 2, none⟩ (.bool false)).setCell ⟨w.heap.size, 3, none⟩ (.string ⟨#[]⟩)) w.heap.size noRule ∧ Below w.heap.size w ((((W.setCell ⟨w.heap.size, 0, none⟩ (.bool false)).setCell ⟨w.heap.size, 1, none⟩ (.bool false)).setCell ⟨w.heap.size, 2, none⟩ (.bool false)).setCell ⟨w.heap.size, 3, none⟩ (.string ⟨#[]⟩)) := by
  refine ⟨RB.set (RB.set (RB.set (RB.set hR 0 _) 1 _) 2 _) 3 _, ?_⟩
  exact (((hal.setCell (p := ⟨w.heap.size, 0, none⟩) (Nat.le_refl _) _).setCell (p := ⟨w.heap.size, 1, none⟩) (Nat.le_refl _) _).setCell (p := ⟨w.heap.size, 2, none⟩) (Nat.le_refl _) _).setCell (p := ⟨w.heap.size, 3, none⟩) (Nat.le_refl _) _
theorem rb_put {w W : World} (hR : RB 38 W w.heap.size noRule) (hal : Below w.heap.size w W) (r : RuleD) : RB 38 ((((W.setCell ⟨w.heap.size, 0, none⟩ (.bool r.nt)).setCell ⟨w.heap.size, 1, none⟩ (.bool r.dr)).setCell ⟨w.heap.size, 2, none⟩ (.bool r.fx)).setCell ⟨w.heap.size, 3, none⟩ (.string r.pt)) w.heap.size r ∧ Below w.heap.size w ((((W.setCell ⟨w.heap.size, 0, none⟩ (.bool r.nt)).setCell ⟨w.heap.size, 1, none⟩ (.bool r.dr)).setCell ⟨w.heap.size, 2, none⟩ (.bool r.fx)).setCell ⟨w.heap.size, 3, none⟩ (.string r.pt)) := by
  refine ⟨RB.set (RB.set (RB.set (RB.set hR 0 _) 1 _) 2 _) 3 _, ?_⟩
  exact (((hal.setCell (p := ⟨w.heap.size, 0, none⟩) (Nat.le_refl _) _).setCell (p := ⟨w.heap.size, 1, none⟩) (Nat.le_refl _) _).setCell (p := ⟨w.heap.size, 2, none⟩) (Nat.le_refl _) _).setCell (p := ⟨w.heap.size, 3, none⟩) (Nat.le_refl _) _
theorem last_facts {p : List UInt8} {y : UInt8} {S : ByteArray} (hS : bs (p ++ [y]) = S) : S.size = p.length + 1 ∧ S.toList.isEmpty = false ∧ (∀ h : p.length < S.size, S[p.length] = y) ∧ S.extract 0 p.length = bs p := by
  have hd : S.data.toList = p ++ [y] := by rw [← hS]; rfl
  have hz : S.size = p.length + 1 := by rw [← size_list, hd]; simp
  refine ⟨hz, ?_, fun h => ?_, ?_⟩
  · rw [Lib.toList_data, hd]; cases p <;> rfl
  · have e2 : S[p.length] = S.data.toList[p.length]'(by rw [hd]; simp) := rfl
    rw [e2]
    simp [hd]
  · rw [extract_bs, hd]; simp
theorem head_facts {p : List UInt8} {y : UInt8} {S : ByteArray} (hS : bs (y :: p) = S) : S.size = p.length + 1 ∧ S.toList.isEmpty = false ∧ (∀ h : 0 < S.size, S[0] = y) ∧ S.extract 1 S.size = bs p := by
  have hd : S.data.toList = y :: p := by rw [← hS]; rfl
  have hz : S.size = p.length + 1 := by rw [← size_list, hd]; simp
  refine ⟨hz, ?_, fun h => ?_, ?_⟩
  · rw [Lib.toList_data, hd]; rfl
  · have e2 : S[0] = S.data.toList[0]'(by rw [hd]; simp) := rfl
    rw [e2]
    simp [hd]
  · rw [extract_bs, hd, hz]; simp
theorem b_yes8 {c d : UInt8} {n : Int} (hd : (d.toNat : Int) = n) (h : c = d) : ((c.toNat : Int) == n) = true := by rw [h, hd]; simp
theorem b_no8 {c d : UInt8} {n : Int} (hd : (d.toNat : Int) = n) (h : c ≠ d) : ((c.toNat : Int) == n) = false := by
  rw [beq_eq_false_iff_ne]; intro e; exact h (UInt8.toNat_inj.1 (by omega))
theorem nil_empty {S : ByteArray} (h : bs [] = S) : S.toList.isEmpty = true ∧ S.size = 0 := by subst h; exact ⟨by rw [Lib.toList_data]; rfl, rfl⟩
set_option maxRecDepth 100000 in
set_option maxHeartbeats 4000000 in
theorem ruleOf_any (s : ByteArray) (w : World) (hs : s.size ≤ 16000000) : Calls Tryd.prog 11 #[.string s] w (RefPost (lineR s) w.heap.size w) := by
  have hsl := size_list s
  have hcl := blanks_len s.data.toList
  rw [hsl] at hcl
  have hbox : RB 38 (w.alloc (.cells #[.bool false, .bool false, .bool false, .string ⟨#[]⟩] 38)) w.heap.size noRule := World.alloc_heap_new w _
  have hal : Below w.heap.size w (w.alloc (.cells #[.bool false, .bool false, .bool false, .string ⟨#[]⟩] 38)) := (Below.refl _ _).alloc (Nat.le_refl _) _
  obtain ⟨W0, hW0⟩ : ∃ W0, w.alloc (.cells #[.bool false, .bool false, .bool false, .string ⟨#[]⟩] 38) = W0 := ⟨_, rfl⟩
  have hs0 : w.heap.size < W0.heap.size := by rw [← hW0, World.size_alloc]; omega
  rw [hW0] at hbox hal
  have htr := trimmed_any s W0 hs
  obtain ⟨l, hl⟩ : ∃ l, cutBlanksL s.data.toList = l := ⟨_, rfl⟩
  have HL := hide (show lineR s = if Lib.hasPrefix l [35] = true then none else if (lineOf l).pt.toList = [] ∨ takesP (lineOf l).pt = false then none else some (lineOf l) by unfold lineR; rw [hl])
  rw [hl] at htr hcl
  clear hl hsl
  go_enter Tryd.func11, Tryd.ntmps11
  go_wp2_with fail
  refine htr.mono ?_
  rintro e W1 ⟨rfl, hb1⟩
  have hR1 : RB 38 W1 w.heap.size noRule := (hb1.block _ hs0).trans hbox
  have hal1 : Below w.heap.size w W1 := hal.trans (hb1.mono hal.size)
  have hs1 : w.heap.size < W1.heap.size := Nat.lt_of_lt_of_le hs0 hb1.size
  clear hbox hal hs0 htr hb1 hW0
  obtain ⟨c0, c1, c2, c3, cf⟩ := hR1.cells
  have f0 := cf 0
  have f1 := cf 1
  have f2 := cf 2
  have f3 := cf 3
  have HR := hide (⟨hR1, hal1⟩ : _ ∧ _)
  clear hR1 hal1 cf
  obtain ⟨S, hS⟩ : ∃ S, bs l = S := ⟨_, rfl⟩
  rw [hS]
  cases l with
  | nil =>
    obtain ⟨hE, _⟩ := nil_empty hS
    clear hS
    go_wp2
    obtain ⟨q1, q2⟩ := rb_none HR.out.1 HR.out.2
    refine rule_ret38 q1 rfl rfl rfl ⟨⟨noRule, false, rfl, fun _ => rfl, fun r hr => ?_⟩, q2⟩
    rw [HL.out, if_neg (by decide), if_pos (.inl (by rw [Lib.toList_data]; rfl))] at hr
    cases hr
  | cons x t =>
    obtain ⟨hz, hE, hx0, hext⟩ := head_facts hS
    have hz0 : 0 < S.size := by omega
    have hzI : (0 : Int) < (S.size : Int) := by omega
    have hx0' := hx0 hz0
    have h1z : (1 : Int) ≤ (S.size : Int) := by omega
    by_cases h35 : x = 35
    · have hb : ((S[0].toNat : Int) == 35) = true := b_yes8 rfl (hx0'.trans h35)
      have HX := hide h35
      clear hx0 h35 hx0' hext hS hz
      go_wp2
      obtain ⟨q1, q2⟩ := rb_none HR.out.1 HR.out.2
      refine rule_ret38 q1 rfl rfl rfl ⟨⟨noRule, false, rfl, fun _ => rfl, fun r hr => ?_⟩, q2⟩
      rw [HL.out, HX.out, if_pos (pre_hit 35 t).1] at hr
      cases hr
    · have hb : ((S[0].toNat : Int) == 35) = false := b_no8 (d := 35) rfl (fun e => h35 (hx0'.symm.trans e))
      have hL2 : Lib.hasPrefix (x :: t) [35] = false := (pre_miss 35 x t h35).1
      have hRr : RB 38 (W1.alloc (.cells #[.bool false, .bool false, .bool false, .string ⟨#[]⟩] 38)) W1.heap.size noRule := World.alloc_heap_new W1 _
      have hRz : RB 38 (W1.alloc (.cells #[.bool false, .bool false, .bool false, .string ⟨#[]⟩] 38)) w.heap.size noRule := (Below.heap_alloc _ _ _ hs1).trans HR.out.1
      have hBr : Below w.heap.size w (W1.alloc (.cells #[.bool false, .bool false, .bool false, .string ⟨#[]⟩] 38)) := HR.out.2.alloc HR.out.2.size _
      have HX := hide (⟨hx0', hext, hS, hz, hL2⟩ : _ ∧ _ ∧ _ ∧ _ ∧ _)
      have HR2 := hide (⟨hRr, hRz, hBr⟩ : _ ∧ _ ∧ _)
      clear hx0 h35 hx0' hext hS hz hL2 hRr hRz hBr
      go_upto_if 23 with fail
      obtain ⟨W2, hW2⟩ : ∃ W2, W1.alloc (.cells #[.bool false, .bool false, .bool false, .string ⟨#[]⟩] 38) = W2 := ⟨_, rfl⟩
      rw [hW2] at HR2 ⊢
      clear hW2 c0 c1 c2 c3 f0 f1 f2 f3
      obtain ⟨c0, c1, c2, c3, cf⟩ := HR2.out.1.cells
      have f0 := cf 0
      clear cf c1 c2 c3
      obtain ⟨z, hz⟩ : ∃ z, W1.heap.size = z := ⟨_, rfl⟩
      rw [hz] at HR2 c0 f0 hs1 ⊢
      clear hz
      go_cut [0] from 10 (fun sv wc => sv = .string (bs (Lib.trimPrefix (x :: t) [33])) ∧ RB 38 wc z ⟨Lib.hasPrefix (x :: t) [33], false, false, ⟨#[]⟩⟩ ∧ RB 38 wc w.heap.size noRule ∧ Below w.heap.size w wc)
      case first =>
        obtain ⟨hx0, hext, hS, hz, _⟩ := HX.out
        by_cases h33 : x = 33
        · have hb33 : ((S[0].toNat : Int) == 33) = true := b_yes8 rfl (hx0.trans h33)
          have HY := hide h33
          have HE := hide hext
          clear h33 hx0 hext hS hz
          go_wp2
          go_meet
          case rel =>
            refine ⟨?_, ?_, (set_other _ _ _ _ (by omega)).trans HR2.out.2.1, HR2.out.2.2.setCell (p := ⟨z, 0, none⟩) (by show w.heap.size ≤ z; omega) _⟩
            · rw [HE.out, HY.out, (pre_hit 33 t).2]
            · rw [HY.out, (pre_hit 33 t).1]
              exact RB.set HR2.out.1 0 _
        · have hb33 : ((S[0].toNat : Int) == 33) = false := b_no8 (d := 33) rfl (fun e => h33 (hx0.symm.trans e))
          have HY := hide h33
          clear h33 hx0 hext hS hz
          go_wp2
          go_meet
          case rel =>
            refine ⟨?_, ?_, HR2.out.2.1, HR2.out.2.2⟩
            · rw [(pre_miss 33 x t HY.out).2, HX.out.2.2.1]
            · rw [(pre_miss 33 x t HY.out).1]
              exact HR2.out.1
      case rest =>
        obtain ⟨rfl, hcr, hcz, hcb⟩ := hcut
        have hL35 := HX.out.2.2.2.2
        clear HX
        clear c0 f0 HR2 HR hE hb
        clear hz0 hzI h1z
        have hl1 := trimP_len (x :: t) [33]
        obtain ⟨l1, hl1e⟩ : ∃ l1, Lib.trimPrefix (x :: t) [33] = l1 := ⟨_, rfl⟩
        obtain ⟨nt, hnt⟩ : ∃ nt, Lib.hasPrefix (x :: t) [33] = nt := ⟨_, rfl⟩
        rw [hnt] at hcr
        rw [hl1e] at hl1 ⊢
        have hLO : lineOf (x :: t) = ⟨nt, Lib.hasSuffix l1 [47], decide (0 ≤ Lib.indexByte (Lib.trimSuffix l1 [47]) 47), bs (Lib.trimPrefix (Lib.trimSuffix l1 [47]) [47])⟩ := by unfold lineOf; rw [hl1e, hnt]
        have hln : l1.length ≤ 16000000 := by omega
        obtain ⟨S1, hS1⟩ : ∃ S, bs l1 = S := ⟨_, rfl⟩
        rw [hS1]
        have HW := hide (⟨hcr, hcz, hcb⟩ : _ ∧ _ ∧ _)
        have HLL := hide (⟨hLO, hL35, HL.out⟩ : _ ∧ _ ∧ _)
        clear hcr hcz hcb hl1e hnt hl1 hLO hL35 HL hcl
        go_upto_region 8 with fail
        go_cut [36] from 10 (fun bv wd => bv = .bool (Lib.hasSuffix l1 [47]) ∧ wd = wc)
        case first =>
          rcases List.eq_nil_or_concat l1 with rfl | ⟨p, y, rfl⟩
          · obtain ⟨hE, _⟩ := nil_empty hS1
            clear hS1
            go_wp2
            go_meet
            case rel => exact ⟨by rw [(suf_nil 47).1], rfl⟩
          · rw [List.concat_eq_append] at *
            obtain ⟨hz, hE, hx0, hext⟩ := last_facts hS1
            have hpz : p.length < S1.size := by omega
            have hpl : p.length ≤ 16000000 := by rw [List.length_append] at hln; omega
            have h1 : (S1.size : Int) - 1 = (p.length : Int) := by omega
            have h2 : (p.length : Int) < (S1.size : Int) := by omega
            have hxx := hx0 hpz
            by_cases h47 : y = 47
            · have hb : ((S1[p.length].toNat : Int) == 47) = true := b_yes8 rfl (hxx.trans h47)
              have HY := hide h47
              clear hz hx0 hext hxx h47 hS1
              go_wp2
              go_meet
              case rel => exact ⟨by rw [HY.out, (suf_hit 47 p).1], rfl⟩
            · have hb : ((S1[p.length].toNat : Int) == 47) = false := b_no8 (d := 47) rfl (fun e => h47 (hxx.symm.trans e))
              have HY := hide h47
              clear hz hx0 hext hxx h47 hS1
              go_wp2
              go_meet
              case rel => exact ⟨by rw [(suf_miss 47 y p HY.out).1], rfl⟩
        case rest =>
          obtain ⟨rfl, hwd⟩ := hcut
          rw [hwd]
          clear hwd
          go_upto_if 36 with fail
          obtain ⟨c0, c1, c2, c3, cf⟩ := HW.out.1.cells
          have f1 := cf 1
          clear cf c0 c2 c3
          go_cut [0] from 10 (fun sv we => sv = .string (bs (Lib.trimSuffix l1 [47])) ∧ RB 38 we z ⟨nt, Lib.hasSuffix l1 [47], false, ⟨#[]⟩⟩ ∧ RB 38 we w.heap.size noRule ∧ Below w.heap.size w we)
          case first =>
            have keep : Lib.hasSuffix l1 [47] = false → Lib.trimSuffix l1 [47] = l1 := fun h => by unfold Lib.trimSuffix; rw [h]; rfl
            cases hd : Lib.hasSuffix l1 [47] with
            | false =>
              have HK := hide (keep hd)
              clear keep
              go_wp2
              go_meet
              case rel => exact ⟨by rw [HK.out, hS1], by rw [hd]; exact HW.out.1, HW.out.2.1, HW.out.2.2⟩
            | true =>
              clear keep
              obtain ⟨p, rfl⟩ : ∃ p, l1 = p ++ [47] := by
                rcases List.eq_nil_or_concat l1 with rfl | ⟨p, y, rfl⟩
                · rw [(suf_nil 47).1] at hd; cases hd
                · rw [List.concat_eq_append] at *
                  by_cases h47 : y = 47
                  · exact ⟨p, by rw [h47]⟩
                  · rw [(suf_miss 47 y p h47).1] at hd; cases hd
              obtain ⟨hz, hE, hx0, hext⟩ := last_facts hS1
              have hpl : p.length ≤ 16000000 := by rw [List.length_append] at hln; omega
              have h1 : (S1.size : Int) - 1 = (p.length : Int) := by omega
              have h2 : (p.length : Int) ≤ (S1.size : Int) := by omega
              have h3 : (0 : Int) ≤ (p.length : Int) := by omega
              have HK := hide (⟨hext, (suf_hit 47 p).2⟩ : _ ∧ _)
              clear hz hE hx0 hext hS1
              go_wp2
              go_meet
              case rel => exact ⟨by rw [HK.out.1, HK.out.2], by rw [hd]; exact RB.set HW.out.1 1 _, (set_other _ _ _ _ (by omega)).trans HW.out.2.1, HW.out.2.2.setCell (p := ⟨z, 1, none⟩) (by show w.heap.size ≤ z; omega) _⟩
          case rest =>
            obtain ⟨rfl, hcr, hcz, hcb⟩ := hcut
            have hl2 := trimS_len l1 [47]
            obtain ⟨l2, hl2e⟩ : ∃ l2, Lib.trimSuffix l1 [47] = l2 := ⟨_, rfl⟩
            obtain ⟨dr, hdr⟩ : ∃ dr, Lib.hasSuffix l1 [47] = dr := ⟨_, rfl⟩
            rw [hdr] at hcr HLL
            rw [hl2e] at hl2 HLL ⊢
            have hln2 : l2.length ≤ 16000000 := by omega
            have hfx := fx_eq l2
            obtain ⟨S2, hS2⟩ : ∃ S, bs l2 = S := ⟨_, rfl⟩
            rw [hS2] at hfx ⊢
            have hz2 : S2.size ≤ 16000000 := by rw [← hS2]; show (⟨_⟩ : ByteArray).size ≤ _; rw [bs_size]; exact hln2
            have hcut2 := cut_any 47 S2 wc (by omega)
            have hclen := cutS_length 47 S2
            have HW2 := hide (⟨hcr, hcz, hcb⟩ : _ ∧ _ ∧ _)
            clear HW c1 f1 hS1 hdr hl2e hl2 hln hcr hcz hcb
            go_wp2_with fail
            refine hcut2.mono ?_
            rintro e W5 ⟨v5, rfl, hown5, hb5⟩
            obtain ⟨pa, pc, hp5⟩ : ∃ a c, v5 = .slice a (cutS 47 S2).length c := by
              rcases hown5.2 with ⟨e, h0⟩ | ⟨g, c, cur, e, _⟩
              · exact ⟨_, _, by rw [e, h0]⟩
              · exact ⟨_, _, e⟩
            subst hp5
            have hzl : z < wc.heap.size := (Array.getElem?_eq_some_iff.1 HW2.out.1).1
            have hwl : w.heap.size < wc.heap.size := (Array.getElem?_eq_some_iff.1 HW2.out.2.1).1
            have hr5 : RB 38 W5 z ⟨nt, dr, false, ⟨#[]⟩⟩ := (hb5.block _ hzl).trans HW2.out.1
            have hz5 : RB 38 W5 w.heap.size noRule := (hb5.block _ hwl).trans HW2.out.2.1
            have hbb5 : Below w.heap.size w W5 := HW2.out.2.2.trans (hb5.mono HW2.out.2.2.size)
            obtain ⟨m, hm⟩ : ∃ m, (cutS 47 S2).length = m := ⟨_, rfl⟩
            rw [hm] at hfx ⊢
            obtain ⟨c0, c1, c2, c3, cf⟩ := hr5.cells
            have f2 := cf 2
            obtain ⟨fx, hfxe⟩ : ∃ b, decide (1 < m) = b := ⟨_, rfl⟩
            rw [hfxe] at hfx
            have hfxI : decide ((1 : Int) < (m : Int)) = fx := by rw [← hfxe, decide_eq_decide]; omega
            rw [← hfx] at HLL
            have HW5 := hide (⟨hr5, hz5, hbb5⟩ : _ ∧ _ ∧ _)
            clear hown5 hb5 hr5 hz5 hbb5 hm hfx hcut2 hclen HW2 c0 c1 c3 cf hfxe hzl hwl
            go_upto_region 12 with fail
            have hr6 : RB 38 (W5.setCell ⟨z, 2, none⟩ (.bool fx)) z ⟨nt, dr, fx, ⟨#[]⟩⟩ := RB.set HW5.out.1 2 _
            have hz6 : RB 38 (W5.setCell ⟨z, 2, none⟩ (.bool fx)) w.heap.size noRule := (set_other _ _ _ _ (by omega)).trans HW5.out.2.1
            have hb6 : Below w.heap.size w (W5.setCell ⟨z, 2, none⟩ (.bool fx)) := HW5.out.2.2.setCell (p := ⟨z, 2, none⟩) (by show w.heap.size ≤ z; omega) _
            obtain ⟨W6, hW6⟩ : ∃ W6, W5.setCell ⟨z, 2, none⟩ (.bool fx) = W6 := ⟨_, rfl⟩
            rw [hW6] at hr6 hz6 hb6 ⊢
            have HW6 := hide (⟨hr6, hz6, hb6⟩ : _ ∧ _ ∧ _)
            clear hW6 hr6 hz6 hb6 HW5 c2 f2 hfxI
            go_cut [54] from 10 (fun bv we => bv = .bool (Lib.hasPrefix l2 [47]) ∧ we = W6)
            case first =>
              cases l2 with
              | nil =>
                obtain ⟨hE, _⟩ := nil_empty hS2
                clear hS2
                go_wp2
                go_meet
                case rel => exact ⟨by rw [(pre_nil 47).1], rfl⟩
              | cons y p =>
                obtain ⟨hz, hE, hx0, hext⟩ := head_facts hS2
                have hpz : 0 < S2.size := by omega
                have hpI : (0 : Int) < (S2.size : Int) := by omega
                have hxx := hx0 hpz
                by_cases h47 : y = 47
                · have hb : ((S2[0].toNat : Int) == 47) = true := b_yes8 rfl (hxx.trans h47)
                  have HY := hide h47
                  clear hz hx0 hext hxx h47 hS2
                  go_wp2
                  go_meet
                  case rel => exact ⟨by rw [HY.out, (pre_hit 47 p).1], rfl⟩
                · have hb : ((S2[0].toNat : Int) == 47) = false := b_no8 (d := 47) rfl (fun e => h47 (hxx.symm.trans e))
                  have HY := hide h47
                  clear hz hx0 hext hxx h47 hS2
                  go_wp2
                  go_meet
                  case rel => exact ⟨by rw [(pre_miss 47 y p HY.out).1], rfl⟩
            case rest =>
              obtain ⟨rfl, hwd⟩ := hcut
              rw [hwd]
              clear hwd
              go_upto_if 54 with fail
              go_cut [0] from 10 (fun sv we => sv = .string (bs (Lib.trimPrefix l2 [47])) ∧ we = W6)
              case first =>
                have keep : Lib.hasPrefix l2 [47] = false → Lib.trimPrefix l2 [47] = l2 := fun h => by unfold Lib.trimPrefix; rw [h]; rfl
                cases hd : Lib.hasPrefix l2 [47] with
                | false =>
                  have HK := hide (keep hd)
                  clear keep
                  go_wp2
                  go_meet
                  case rel => exact ⟨by rw [HK.out, hS2], rfl⟩
                | true =>
                  clear keep
                  obtain ⟨p, rfl⟩ : ∃ p, l2 = 47 :: p := by
                    cases l2 with
                    | nil => rw [(pre_nil 47).1] at hd; cases hd
                    | cons y p =>
                      by_cases h47 : y = 47
                      · exact ⟨p, by rw [h47]⟩
                      · rw [(pre_miss 47 y p h47).1] at hd; cases hd
                  obtain ⟨hz, hE, hx0, hext⟩ := head_facts hS2
                  have h1 : (1 : Int) ≤ (S2.size : Int) := by omega
                  have HK := hide (⟨hext, (pre_hit 47 p).2⟩ : _ ∧ _)
                  clear hz hE hx0 hext hS2
                  go_wp2
                  go_meet
                  case rel => exact ⟨by rw [HK.out.1, HK.out.2], rfl⟩
              case rest =>
                obtain ⟨rfl, hwd⟩ := hcut
                rw [hwd]
                clear hwd
                have hl3 := trimP_len l2 [47]
                obtain ⟨S3, hS3⟩ : ∃ S, bs (Lib.trimPrefix l2 [47]) = S := ⟨_, rfl⟩
                have hz3 : S3.size ≤ 16000000 := by rw [← hS3]; show (⟨_⟩ : ByteArray).size ≤ _; rw [bs_size]; omega
                rw [hS3] at HLL ⊢
                obtain ⟨c0, c1, c2, c3, cf⟩ := HW6.out.1.cells
                have f3 := cf 3
                have hr7 : RB 38 (W6.setCell ⟨z, 3, none⟩ (.string S3)) z ⟨nt, dr, fx, S3⟩ := RB.set HW6.out.1 3 _
                have hz7 : RB 38 (W6.setCell ⟨z, 3, none⟩ (.string S3)) w.heap.size noRule := (set_other _ _ _ _ (by omega)).trans HW6.out.2.1
                have hb7 : Below w.heap.size w (W6.setCell ⟨z, 3, none⟩ (.string S3)) := HW6.out.2.2.setCell (p := ⟨z, 3, none⟩) (by show w.heap.size ≤ z; omega) _
                have HW7 := hide (⟨hr7, hz7, hb7⟩ : _ ∧ _ ∧ _)
                clear hr7 hz7 hb7 cf c0 c1 c2 HW6 hS2 hS3 hl3 hln2 hz2
                go_wp2_with fail
                obtain ⟨W7, hW7⟩ : ∃ W7, W6.setCell ⟨z, 3, none⟩ (.string S3) = W7 := ⟨_, rfl⟩
                rw [hW7] at HW7 ⊢
                clear hW7 c3 f3
                have hpar := refparts_any S3 W7 (by omega)
                have hpl := partsS_length S3
                obtain ⟨ps, hps⟩ : ∃ ps, partsS S3 = ps := ⟨_, rfl⟩
                rw [hps] at hpar hpl
                have HT := hide (show takesP S3 = ps.all (fun q => decide (wrongD q = 0)) by unfold takesP; rw [hps])
                clear hps
                refine hpar.mono ?_
                rintro e W8 ⟨v8, rfl, hown8, hb8⟩
                have hrow8 := StrRow.of_owns hown8
                obtain ⟨pa8, pc8, hv8⟩ : ∃ a cap, v8 = .slice a ps.length cap := by
                  rcases hrow8 with ⟨e, e2⟩ | ⟨g, cap, e, _⟩
                  · subst e2; exact ⟨_, _, e⟩
                  · exact ⟨_, _, e⟩
                subst hv8
                have hzl : z < W7.heap.size := (Array.getElem?_eq_some_iff.1 HW7.out.1).1
                have hwl : w.heap.size < W7.heap.size := (Array.getElem?_eq_some_iff.1 HW7.out.2.1).1
                have hr8 : RB 38 W8 z ⟨nt, dr, fx, S3⟩ := (hb8.block _ hzl).trans HW7.out.1
                have hz8 : RB 38 W8 w.heap.size noRule := (hb8.block _ hwl).trans HW7.out.2.1
                have hbb8 : Below w.heap.size w W8 := HW7.out.2.2.trans (hb8.mono HW7.out.2.2.size)
                have HW8 := hide (⟨hr8, hz8, hbb8, hrow8⟩ : _ ∧ _ ∧ _ ∧ _)
                clear hpar hown8 hb8 hr8 hz8 hbb8 hrow8 HW7 hzl hwl
                go_wp2
                go_loopw [6, 7, 8, 9] (fun iv _ _ _ wr => ∃ (i : Nat), iv = .int .i64 (i : Int) ∧ i ≤ ps.length ∧ ps.all (fun q => decide (wrongD q = 0)) = (ps.drop i).all (fun q => decide (wrongD q = 0)) ∧ Below W8.heap.size W8 wr) (fun iv _ _ _ _ => ps.length - (intOf iv).toNat)
                case atStart => exact ⟨0, rfl, Nat.zero_le _, by rw [List.drop_zero], Below.refl _ _⟩
                case round =>
                  obtain ⟨i, rfl, hi, hall, hbr⟩ := hrel
                  have hzl : z < W8.heap.size := (Array.getElem?_eq_some_iff.1 HW8.out.1).1
                  have hwl : w.heap.size < W8.heap.size := (Array.getElem?_eq_some_iff.1 HW8.out.2.1).1
                  have HALL := hide hall
                  have HBR := hide hbr
                  by_cases hlt : i < ps.length
                  · have hiI : (i : Int) < (ps.length : Int) := by omega
                    rcases HW8.out.2.2.2 with ⟨_, e⟩ | ⟨g', cap', e, hg, hcap, hx⟩
                    · rw [e] at hlt; simp at hlt
                    obtain ⟨rfl, rfl⟩ : pa8 = some ⟨g', 0, none⟩ ∧ pc8 = cap' := by cases e; exact ⟨rfl, rfl⟩
                    have hcell : wr.cell? ⟨g', i, none⟩ = some (.string (ps[i]'hlt)) := (hbr.cell (p := ⟨g', i, none⟩) hg).trans (hx i _ (List.getElem?_eq_getElem hlt))
                    have htk := pieces_any (ps[i]'hlt) true wr
                    have HD := hide (all_drop (fun q => decide (wrongD q = 0)) ps i hlt)
                    obtain ⟨er, her⟩ : ∃ er, wrongD (ps[i]'hlt) = er := ⟨_, rfl⟩
                    rw [her] at htk HD
                    clear her hall hbr e
                    by_cases h0 : er = 0
                    · subst h0
                      go_wp2_with (go_at_call 23; refine htk.mono ?_; rintro e w2 ⟨⟨qa, qn, qc, ql, rfl⟩, hb2⟩)
                      go_roundw
                      case rel => exact ⟨i + 1, by go_num, by omega, by rw [HALL.out, HD.out]; simp, HBR.out.trans (hb2.mono HBR.out.size)⟩
                      case measure => simp [intOf]; omega
                    · have hne : ((er : Int) != 0) = true := by rw [bne_iff_ne]; omega
                      have HN := hide h0
                      clear h0
                      go_wp2_with (go_at_call 23; refine htk.mono ?_; rintro e w2 ⟨⟨qa, qn, qc, ql, rfl⟩, hb2⟩; have hb82 : Below W8.heap.size W8 w2 := (HBR.out.trans (hb2.mono HBR.out.size)); have hz2 : RB 38 w2 w.heap.size noRule := ((hb82.block _ hwl).trans HW8.out.2.1); obtain ⟨y0, y1, y2, y3, yf⟩ := hz2.cells; have g0 := yf 0; have g1 := yf 1; have g2 := yf 2; have g3 := yf 3; have HZ2 := hide (⟨hz2, HW8.out.2.2.1.trans (hb82.mono HW8.out.2.2.1.size)⟩ : RB 38 w2 w.heap.size noRule ∧ Below w.heap.size w w2); clear hz2 yf hb82)
                      obtain ⟨q1, q2⟩ := rb_none HZ2.out.1 HZ2.out.2
                      refine rule_ret38 q1 rfl rfl rfl ⟨⟨noRule, false, rfl, fun _ => rfl, fun r hr => ?_⟩, q2⟩
                      have hno : takesP S3 = false := by
                        rw [HT.out, HALL.out, HD.out, decide_eq_false HN.out]
                        rfl
                      rw [HLL.out.2.2, HLL.out.1, HLL.out.2.1, if_neg (by decide), if_pos (.inr hno)] at hr
                      cases hr
                  · have hie : i = ps.length := by omega
                    subst hie
                    have hiI : ¬ ((ps.length : Int) < (ps.length : Int)) := by omega
                    have hz9 : RB 38 wr w.heap.size noRule := (hbr.block _ hwl).trans HW8.out.2.1
                    have hr9 : RB 38 wr z ⟨nt, dr, fx, S3⟩ := (hbr.block _ hzl).trans HW8.out.1
                    have hyes : takesP S3 = true := by
                      rw [HT.out, HALL.out, List.drop_length]
                      rfl
                    obtain ⟨y0, y1, y2, y3, yf⟩ := hz9.cells
                    have g0 := yf 0
                    have g1 := yf 1
                    have g2 := yf 2
                    have g3 := yf 3
                    obtain ⟨x0, x1, x2, x3, _⟩ := hr9.cells
                    have HZ2 := hide (⟨hz9, HW8.out.2.2.1.trans (hbr.mono HW8.out.2.2.1.size), hyes⟩ : RB 38 wr w.heap.size noRule ∧ Below w.heap.size w wr ∧ takesP S3 = true)
                    clear hz9 yf hr9 hbr hall hyes
                    cases hE : S3.toList.isEmpty with
                    | true =>
                      go_wp2
                      obtain ⟨q1, q2⟩ := rb_put HZ2.out.1 HZ2.out.2.1 ⟨nt, dr, fx, S3⟩
                      refine rule_ret38 q1 rfl rfl rfl ⟨⟨_, false, rfl, fun _ => rfl, fun r hr => ?_⟩, q2⟩
                      rw [HLL.out.2.2, HLL.out.1, HLL.out.2.1, if_neg (by decide), if_pos (.inl (List.isEmpty_iff.1 hE))] at hr
                      cases hr
                    | false =>
                      go_wp2
                      obtain ⟨q1, q2⟩ := rb_put HZ2.out.1 HZ2.out.2.1 ⟨nt, dr, fx, S3⟩
                      have hls : lineR s = some ⟨nt, dr, fx, S3⟩ := by
                        rw [HLL.out.2.2, HLL.out.1, HLL.out.2.1, if_neg (by decide), if_neg]
                        rintro (h | h)
                        · rw [h] at hE; cases hE
                        · have h' : takesP S3 = false := h
                          rw [HZ2.out.2.2] at h'; cases h'
                      refine rule_ret38 q1 rfl rfl rfl ⟨⟨_, true, rfl, fun h => ?_, fun r hr => ?_⟩, q2⟩
                      · rw [hls] at h; cases h
                      · rw [hls] at hr; exact ⟨rfl, Option.some.inj hr⟩
end Go.Proofs.YtoebmpllckpjlaaDoor
