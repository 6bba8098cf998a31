/- The document's reader: an atom. -/
import Derived.Test.YtdlljlmgoiobpaaGreatDoorDaE
import Derived.Test.YtdlljlmgoiobpaaGreatDoorGrC
namespace Go.Proofs.YtdlljlmgoiobpaaGreatDoor
open Go.RowKit Go.Maps
def refL : List UInt8 := [94, 36, 40, 41, 124, 42, 43, 63, 123]
theorem lit_has {c : UInt8} (h46 : c ≠ 46) (h91 : c ≠ 91) (h92 : c ≠ 92) : noBytesL.contains c = refL.contains c := by
  rw [Bool.eq_iff_iff]
  simp [noBytesL, refL, h46, h91, h92]
theorem brk_none {s : ByteArray} {i : Nat} (h : brTold s i = none) : partS (brkD s.data.toList (i + 1)) = .bad 2 := by
  unfold brTold noE at h
  unfold brkD plainBrD
  rw [Nat.add_sub_cancel]
  cases hb : bracketD false [94] (s.data.toList.drop i) with
  | none => rfl
  | some p => rw [hb] at h; cases h
theorem brk_bad {s : ByteArray} {i m : Nat} (h : brTold s i = some (false, m)) : partS (brkD s.data.toList (i + 1)) = .bad 2 := by
  unfold brTold noE at h
  unfold brkD plainBrD
  rw [Nat.add_sub_cancel]
  cases hb : bracketD false [94] (s.data.toList.drop i) with
  | none => rfl
  | some p =>
    rw [hb] at h
    simp only [Option.map_some, Option.some.injEq, Prod.mk.injEq] at h
    simp only [h.1]
    rfl
theorem b8_no {c : UInt8} {n : Nat} (_hn : n < 256) (h : c ≠ UInt8.ofNat n) : ((c.toNat : Int) == (n : Int)) = false := by
  rw [beq_eq_false_iff_ne]
  intro e
  apply h
  have : c.toNat = n := by omega
  rw [← this]
  simp
theorem brk_ok {s : ByteArray} {i m : Nat} (hi : i < s.size) (h : brTold s i = some (true, m)) : ∃ t : ByteArray, partS (brkD s.data.toList (i + 1)) = .ok ⟨.mk 2 t.data.toList [], 1⟩ m := by
  unfold brTold at h
  unfold brkD plainBrD
  rw [Nat.add_sub_cancel]
  cases hb : bracketD false [94] (s.data.toList.drop i) with
  | none => unfold noE at h; rw [hb] at h; cases h
  | some p =>
    unfold noE at h
    rw [hb] at h
    simp only [Option.map_some, Option.some.injEq, Prod.mk.injEq] at h
    obtain ⟨hk, hm⟩ := h
    have hl := bracketD_rest hb
    rw [List.length_drop] at hl
    have hsl : s.data.toList.length = s.size := by simp
    refine ⟨⟨(textTo p.set 256).toArray⟩, ?_⟩
    simp only [hk, if_true]
    unfold partS
    simp only
    rw [List.length_drop, hsl, ← hm]
    congr 1
    omega
theorem dp_okDD {fn : Func} {b g kc kt j : Nat} {s : ByteArray} {at_ d M : Int} {w W : World} {op0 : Int} {st0 : ByteArray} {ka0 : Option Addr} {m0 c0 : Nat} {op : Int} {st : ByteArray} {ka : Option Addr} {m c : Nat} {p : PtD} {n : Int} {a : Act} {o : Res PtD} (hr : fn.results = #[.cell kc 32, .tmp kt]) (ha : a.tmps[kc]? = some (.pointer (some ⟨g, 0, none⟩))) (hn : a.tmps[kt]? = some (.int .i64 n)) (hd : a.defers = []) (hx : XB W g op0 st0 ka0 m0 c0) (hE : EB W b s (j : Int) 0 at_ d) (hf : FrE b w W) (hgb : g ≠ b) (hg : w.heap.size ≤ g) (ho : o = .ok p j) (hnp : n = p.atoms) :
    bodyPost Tryz.prog fn (DP b s at_ d M o w) .ret a (set3x W g op st ka m c).drew.drew := by
  subst ho
  have fs := set3x_fr W g op st ka m c
  exact x_ret hr ha hn hd (XB.drew (XB.drew (hx.set3x op st ka m c))) ⟨(hf.own hg fs).drew.drew, _, _, _, _, _, _, rfl, hnp, (hE.own fs hgb).drew.drew⟩
set_option maxRecDepth 100000 in
set_option maxHeartbeats 4000000 in
theorem ratom_any (b : Nat) (s : ByteArray) (d f : Nat) (ex : Nat → Res PtD) (hs : s.size ≤ 200) (hd : d + f = 20) (hex : f ≠ 0 → DOK 12 b s ((d : Int) + 1) 600000 ex) (hgo : f ≠ 0 → GoesE s.data.toList ex) :
    DOK 41 b s (d : Int) 600000 (atomD f ex s.data.toList) := by
  intro w i at_ h hi
  have hsl : s.data.toList.length = s.size := by simp
  have hb : b < w.heap.size := (Array.getElem?_eq_some_iff.1 h).1
  have hgb : w.heap.size ≠ b := by omega
  obtain ⟨W0, hW0⟩ : ∃ W0, w.alloc (.cells #[.int .i64 0, .string ⟨#[]⟩, .slice none 0 0] 32) = W0 := ⟨_, rfl⟩
  have h0 : EB W0 b s (i : Int) 0 at_ d := by rw [← hW0]; exact h.alloc _
  have y0 : XB W0 w.heap.size 0 ⟨#[]⟩ none 0 0 := by rw [← hW0]; exact XB.new w 0 ⟨#[]⟩ none 0 0
  have f0 : FrE b w W0 := by rw [← hW0]; exact FrE.alloc _ _ _
  obtain ⟨e0, e1, e2, e3, e4, ef, el⟩ := h0.cells
  obtain ⟨z0, z1, z2, zf, zl⟩ := y0.cells
  obtain ⟨o, ho⟩ : ∃ o, atomD f ex s.data.toList i = o := ⟨_, rfl⟩
  rw [ho]
  by_cases hlt : i < s.size
  · have hge : s.data.toList[i]? = some s[i] := by rw [List.getElem?_eq_getElem (by simpa using hlt)]; rfl
    have hiI : ¬ ((s.size : Int) ≤ (i : Int)) := by omega
    have hiL : (i : Int) < (s.size : Int) := by omega
    unfold atomD at ho
    rw [hge] at ho
    simp only [Option.some.injEq] at ho
    obtain ⟨cc, hcc⟩ : ∃ cc : UInt8, s[i] = cc := ⟨_, rfl⟩
    have hgr := rgroup_any b s i d f at_ ex W0.drew.drew h0 hlt hs hd hex hgo
    have hsg := sign_any b s i at_ d 600000 W0.drew.drew h0 hlt hs (by decide)
    have H0 := hide (⟨h0, y0, f0, ho, hge, hsl, hcc⟩ : _ ∧ _ ∧ _ ∧ _ ∧ _ ∧ _ ∧ _)
    clear h h0 y0 f0 ho hge hsl hd hex hgo hcc
    by_cases c40 : s[i] = 40
    · have hb40 : ((s[i].toNat : Int) == 40) = true := by rw [c40]; rfl
      have hoe : o = grpD f ex s.data.toList (i + 1) := by rw [← H0.out.2.2.2.1, if_pos c40]
      rw [← hoe] at hgr
      have HO := hide hoe
      clear c40 hsg hoe
      go_enter Tryz.func41, Tryz.ntmps41
      go_wp2
      go_region
      go_wp2
      go_region
      go_wp2_with fail
      refine hgr.mono ?_
      rintro e w5 ⟨f5, op, st, ka, m, c, n, rfl, hp⟩
      obtain ⟨h0, y0, f0, _, _, _, _⟩ := H0.out
      have y5 := XB.keep (W := W0.drew.drew) y0 f5 hgb
      have F5 := f0.drew.drew.trans f5
      clear e0 e1 e2 e3 e4 ef el z0 z1 z2 zf zl hgr
      obtain ⟨z0, z1, z2, zf, zl⟩ := y5.cells
      have H5 := hide (⟨y5, F5, hp⟩ : _ ∧ _ ∧ _)
      clear y5 F5 hp f5 h0 y0 f0
      unfold xV
      go_wp2
      obtain ⟨y5, F5, hp⟩ := H5.out
      cases o with
      | bad r =>
        obtain ⟨hr0, hn0, hnM, i', at', d', E5⟩ := hp
        exact dp_bad rfl rfl rfl rfl y5 E5 F5 hgb (Nat.le_refl _) rfl hr0 hn0 hnM
      | ok p j =>
        obtain ⟨hnp, E5⟩ := hp
        exact dp_ok rfl rfl rfl rfl y5 E5 F5 hgb (Nat.le_refl _) rfl hnp
    · have hb40 : ((s[i].toNat : Int) == 40) = false := b8_no (n := 40) (by decide) c40
      by_cases c46 : s[i] = 46
      · have hb46 : ((s[i].toNat : Int) == 46) = true := by rw [c46]; rfl
        have hoe : o = .ok ⟨.mk 2 (textTo butS 256) [], 1⟩ (i + 1) := by rw [← H0.out.2.2.2.1, if_neg c40, if_pos c46]
        have HO := hide hoe
        clear c40 c46 hsg hgr hoe
        obtain ⟨h0, y0, f0, q1, q2, q3, q4⟩ := H0.out
        clear q1 q2 q3 q4
        have fs := FrE.set b W0 1 (.int .i64 ((i : Int) + 1))
        have E2 : EB (W0.setCell ⟨b, 1, none⟩ (.int .i64 ((i : Int) + 1))).drew.drew b s ((i + 1 : Nat) : Int) 0 at_ d := (h0.set1 ((i : Int) + 1)).drew.drew
        have y2 := XB.drew (XB.drew (y0.keep fs hgb))
        have F2 := (f0.trans fs).drew.drew
        have H2 := hide (⟨E2, y2, F2⟩ : _ ∧ _ ∧ _)
        have hal := all_any (W0.setCell ⟨b, 1, none⟩ (.int .i64 ((i : Int) + 1))).drew.drew
        clear h0 y0 f0 fs E2 y2 F2
        go_enter Tryz.func41, Tryz.ntmps41
        go_wp2
        go_region
        go_wp2
        go_region
        go_wp2_with fail
        refine hal.mono ?_
        rintro e w3 ⟨t3, rfl, ht3, b3⟩
        obtain ⟨E2, y2, F2⟩ := H2.out
        have E3 := E2.all (fun x => fr_below b3 (Nat.le_refl _))
        have y3 := y2.all (fun x => fr_below b3 (Nat.le_refl _))
        have F3 := F2.trans (fr_below b3 (Nat.le_refl _))
        have H3 := hide (⟨E3, y3, F3⟩ : _ ∧ _ ∧ _)
        have hwo := without_any t3 ⟨#[10]⟩ w3 (by omega) (by decide)
        clear E2 y2 F2 E3 y3 F3 b3 hal e0 e1 e2 e3 e4 ef el z0 z1 z2 zf zl H2
        go_wp2_with fail
        refine hwo.mono ?_
        rintro e w4 ⟨t4, rfl, ht4, b4⟩
        obtain ⟨E3, y3, F3⟩ := H3.out
        have E4 := E3.all (fun x => fr_below b4 (Nat.le_refl _))
        have y4 := y3.all (fun x => fr_below b4 (Nat.le_refl _))
        have F4 := F3.trans (fr_below b4 (Nat.le_refl _))
        obtain ⟨z0, z1, z2, zf, zl⟩ := y4.cells
        have H4 := hide (⟨E4, y4, F4⟩ : _ ∧ _ ∧ _)
        clear E3 y3 F3 E4 y4 F4 b4 hwo H3
        go_wp2
        obtain ⟨E4, y4, F4⟩ := H4.out
        exact dp_ok rfl rfl rfl rfl y4 E4 F4 hgb (Nat.le_refl _) HO.out rfl
      · have hb46 : ((s[i].toNat : Int) == 46) = false := b8_no (n := 46) (by decide) c46
        by_cases c91 : s[i] = 91
        · have hb91 : ((s[i].toNat : Int) == 91) = true := by rw [c91]; rfl
          have hoe : o = partS (brkD s.data.toList (i + 1)) := by rw [← H0.out.2.2.2.1, if_neg c40, if_neg c46, if_pos c91]
          have hbr := rbr_any s i W0.drew.drew hs hlt c91
          clear c40 c46 c91 hsg hgr
          cases hT : brTold s i with
          | none =>
            rw [hT] at hbr
            rw [brk_none hT] at hoe
            have HO := hide hoe
            clear hoe hT
            unfold brAns at hbr
            go_enter Tryz.func41, Tryz.ntmps41
            go_wp2
            go_region
            go_wp2
            go_region
            go_wp2_with fail
            refine hbr.mono ?_
            rintro e w3 ⟨⟨t3, rfl, ht3⟩, b3⟩
            obtain ⟨h0, y0, f0, _, _, _, _⟩ := H0.out
            have E3 := EB.all (W := W0.drew.drew) h0 (fun x => fr_below b3 (Nat.le_refl _))
            have y3 := XB.all (W := W0.drew.drew) y0 (fun x => fr_below b3 (Nat.le_refl _))
            have F3 := f0.drew.drew.trans (fr_below b3 (Nat.le_refl _))
            have hf3 := fail_ok b s i at_ d 2 i w3 E3
            have H3 := hide (⟨y3, F3⟩ : _ ∧ _)
            clear h0 y0 f0 E3 y3 F3 b3 hbr e0 e1 e2 e3 e4 ef el z0 z1 z2 zf zl
            go_wp2_with fail
            refine hf3.mono ?_
            rintro e w5 ⟨rfl, r5, f5⟩
            obtain ⟨y3, F3⟩ := H3.out
            have y5 := y3.keep f5 hgb
            have F5 := F3.trans f5
            obtain ⟨z0, z1, z2, zf, zl⟩ := y5.cells
            have H5 := hide (⟨y5, F5, r5⟩ : _ ∧ _ ∧ _)
            clear y5 F5 r5 f5 y3 F3 hf3 H3
            go_wp2
            obtain ⟨y5, F5, r5⟩ := H5.out
            exact dp_bad rfl rfl rfl rfl y5 r5 F5 hgb (Nat.le_refl _) HO.out (by decide) (by decide) (by decide)
          | some km =>
            obtain ⟨k, mm⟩ := km
            rw [hT] at hbr
            unfold brAns at hbr
            have hmI : ¬ ((mm : Int) < 0) := by omega
            cases k with
            | false =>
              rw [brk_bad hT] at hoe
              have HO := hide hoe
              clear hoe hT
              go_enter Tryz.func41, Tryz.ntmps41
              go_wp2
              go_region
              go_wp2
              go_region
              go_wp2_with fail
              refine hbr.mono ?_
              rintro e w3 ⟨⟨t3, rfl, ht3⟩, b3⟩
              obtain ⟨h0, y0, f0, _, _, _, _⟩ := H0.out
              have E3 := EB.all (W := W0.drew.drew) h0 (fun x => fr_below b3 (Nat.le_refl _))
              have y3 := XB.all (W := W0.drew.drew) y0 (fun x => fr_below b3 (Nat.le_refl _))
              have F3 := f0.drew.drew.trans (fr_below b3 (Nat.le_refl _))
              have hf3 := fail_ok b s i at_ d 2 i w3 E3
              have H3 := hide (⟨y3, F3⟩ : _ ∧ _)
              clear h0 y0 f0 E3 y3 F3 b3 hbr e0 e1 e2 e3 e4 ef el z0 z1 z2 zf zl
              go_wp2_with fail
              refine hf3.mono ?_
              rintro e w5 ⟨rfl, r5, f5⟩
              obtain ⟨y3, F3⟩ := H3.out
              have y5 := y3.keep f5 hgb
              have F5 := F3.trans f5
              obtain ⟨z0, z1, z2, zf, zl⟩ := y5.cells
              have H5 := hide (⟨y5, F5, r5⟩ : _ ∧ _ ∧ _)
              clear y5 F5 r5 f5 y3 F3 hf3 H3
              go_wp2
              obtain ⟨y5, F5, r5⟩ := H5.out
              exact dp_bad rfl rfl rfl rfl y5 r5 F5 hgb (Nat.le_refl _) HO.out (by decide) (by decide) (by decide)
            | true =>
              obtain ⟨tt, htt⟩ := brk_ok hlt hT
              rw [htt] at hoe
              have HO := hide hoe
              clear hoe hT htt
              go_enter Tryz.func41, Tryz.ntmps41
              go_wp2
              go_region
              go_wp2
              go_region
              go_wp2_with fail
              refine hbr.mono ?_
              rintro e w3 ⟨⟨t3, rfl, ht3⟩, b3⟩
              obtain ⟨h0, y0, f0, _, _, _, _⟩ := H0.out
              have E3 := EB.all (W := W0.drew.drew) h0 (fun x => fr_below b3 (Nat.le_refl _))
              have y3 := XB.all (W := W0.drew.drew) y0 (fun x => fr_below b3 (Nat.le_refl _))
              have F3 := f0.drew.drew.trans (fr_below b3 (Nat.le_refl _))
              clear e0 e1 e2 e3 e4 ef el z0 z1 z2 zf zl
              obtain ⟨e0, e1, e2, e3, e4, ef, el⟩ := E3.cells
              obtain ⟨z0, z1, z2, zf, zl⟩ := y3.cells
              have H3 := hide (⟨E3, y3, F3⟩ : _ ∧ _ ∧ _)
              clear h0 y0 f0 E3 y3 F3 b3 hbr
              go_wp2
              obtain ⟨E3, y3, F3⟩ := H3.out
              have fs := FrE.set b w3 1 (.int .i64 (mm : Int))
              have E4 := E3.set1 (mm : Int)
              have y4 := y3.keep fs hgb
              exact dp_ok rfl rfl rfl rfl y4 E4 (F3.trans fs) hgb (Nat.le_refl _) HO.out rfl
        · have hb91 : ((s[i].toNat : Int) == 91) = false := b8_no (n := 91) (by decide) c91
          by_cases c92 : s[i] = 92
          · have hb92 : ((s[i].toNat : Int) == 92) = true := by rw [c92]; rfl
            have hoe : o = partS (escSD s.data.toList (i + 1)) := by rw [← H0.out.2.2.2.1, if_neg c40, if_neg c46, if_neg c91, if_pos c92]
            rw [← hoe] at hsg
            have HO := hide hoe
            clear c40 c46 c91 c92 hgr hoe
            go_enter Tryz.func41, Tryz.ntmps41
            go_wp2
            go_region
            go_wp2
            go_region
            go_wp2_with fail
            refine hsg.mono ?_
            rintro e w5 ⟨f5, op, st, ka, m, c, n, rfl, hp⟩
            obtain ⟨h0, y0, f0, _, _, _, _⟩ := H0.out
            have y5 := XB.keep (W := W0.drew.drew) y0 f5 hgb
            have F5 := f0.drew.drew.trans f5
            clear e0 e1 e2 e3 e4 ef el z0 z1 z2 zf zl hsg
            obtain ⟨z0, z1, z2, zf, zl⟩ := y5.cells
            have H5 := hide (⟨y5, F5, hp⟩ : _ ∧ _ ∧ _)
            clear y5 F5 hp f5 h0 y0 f0
            unfold xV
            go_wp2
            obtain ⟨y5, F5, hp⟩ := H5.out
            cases o with
            | bad r =>
              obtain ⟨hr0, hn0, hnM, i', at', d', E5⟩ := hp
              exact dp_bad rfl rfl rfl rfl y5 E5 F5 hgb (Nat.le_refl _) rfl hr0 hn0 hnM
            | ok p j =>
              obtain ⟨hnp, E5⟩ := hp
              exact dp_ok rfl rfl rfl rfl y5 E5 F5 hgb (Nat.le_refl _) rfl hnp
          · have hb92 : ((s[i].toNat : Int) == 92) = false := b8_no (n := 92) (by decide) c92
            have hhas := fun W => rhas_any ⟨refL.toArray⟩ s[i] W (by decide)
            have hhb : hasB ⟨refL.toArray⟩ s[i] = refL.contains s[i] := by unfold hasB; simp
            have hoe : o = if refL.contains s[i] = true then .bad 2 else .ok ⟨.mk 2 [s[i]] [], 1⟩ (i + 1) := by
              rw [← H0.out.2.2.2.1, if_neg c40, if_neg c46, if_neg c91, if_neg c92, ← lit_has c46 c91 c92]
              unfold litD
              rw [H0.out.2.2.2.2.1]
            rw [hhb] at hhas
            clear c40 c46 c91 c92 hgr hsg hhb
            cases hc : refL.contains s[i] with
            | true =>
              rw [hc] at hhas hoe
              simp only [if_true] at hoe
              have HO := hide hoe
              clear hc hoe
              have hf3 := fail_ok b s i at_ d 2 i W0.drew.drew H0.out.1
              go_enter Tryz.func41, Tryz.ntmps41
              go_wp2
              go_region
              go_wp2
              go_region
              go_wp2_with fail
              refine (hhas _).mono ?_
              rintro e w3 ⟨rfl, hw⟩
              rw [hw]
              clear hw
              go_wp2_with fail
              refine hf3.mono ?_
              rintro e w5 ⟨rfl, r5, f5⟩
              obtain ⟨h0, y0, f0, _, _, _, _⟩ := H0.out
              have y5 := XB.keep (W := W0.drew.drew) y0 f5 hgb
              have F5 := f0.drew.drew.trans f5
              clear e0 e1 e2 e3 e4 ef el z0 z1 z2 zf zl hhas
              obtain ⟨z0, z1, z2, zf, zl⟩ := y5.cells
              have H5 := hide (⟨y5, F5, r5⟩ : _ ∧ _ ∧ _)
              clear y5 F5 r5 f5 h0 y0 f0 hf3
              go_wp2
              obtain ⟨y5, F5, r5⟩ := H5.out
              exact dp_bad rfl rfl rfl rfl y5 r5 F5 hgb (Nat.le_refl _) HO.out (by decide) (by decide) (by decide)
            | false =>
              rw [hc] at hhas hoe
              simp only [Bool.false_eq_true, if_false] at hoe
              have HO := hide hoe
              clear hc hoe
              have hi1 : (i : Int) + 1 ≤ (s.size : Int) := by omega
              have hi01 : (i : Int) ≤ (i : Int) + 1 := by omega
              have hi0 : (0 : Int) ≤ (i : Int) := by omega
              go_enter Tryz.func41, Tryz.ntmps41
              go_wp2
              go_region
              go_wp2
              go_region
              go_wp2_with fail
              refine (hhas _).mono ?_
              rintro e w3 ⟨rfl, hw⟩
              rw [hw]
              clear hw hhas
              go_wp2
              obtain ⟨h0, y0, f0, _, _, _, _⟩ := H0.out
              have fs := FrE.set b W0 1 (.int .i64 ((i : Int) + 1))
              have E4 : EB (W0.setCell ⟨b, 1, none⟩ (.int .i64 ((i : Int) + 1))) b s ((i + 1 : Nat) : Int) 0 at_ d := h0.set1 ((i : Int) + 1)
              have y4 := y0.keep fs hgb
              exact dp_okDD rfl rfl rfl rfl y4 E4 (f0.trans fs) hgb (Nat.le_refl _) HO.out rfl
  · have hge : s.data.toList[i]? = none := List.getElem?_eq_none (by omega)
    have hiI : (s.size : Int) ≤ (i : Int) := by omega
    have hoe : o = .bad 2 := by
      rw [← ho]
      unfold atomD litD
      rw [hge]
      simp
    have hf2 := fail_ok b s i at_ d 2 i W0.drew h0.drew
    have H0 := hide (⟨y0, f0, hoe⟩ : _ ∧ _ ∧ _)
    clear h h0 y0 f0 hge hoe ho hex hgo hd hsl
    go_enter Tryz.func41, Tryz.ntmps41
    go_wp2
    go_region
    go_wp2_with fail
    refine hf2.mono ?_
    rintro e w5 ⟨rfl, r5, f5⟩
    obtain ⟨y0, f0, hoe⟩ := H0.out
    have y5 := (XB.drew y0).keep f5 hgb
    have F5 := f0.drew.trans f5
    clear z0 z1 z2 zf zl e0 e1 e2 e3 e4 ef el
    obtain ⟨z0, z1, z2, zf, zl⟩ := y5.cells
    obtain ⟨e0, e1, e2, e3, e4, ef, el⟩ := r5.cells
    have H5 := hide (⟨y5, F5, r5, hoe⟩ : _ ∧ _ ∧ _ ∧ _)
    clear y5 F5 r5 f5 y0 f0 H0 hW0 hoe
    go_wp2
    obtain ⟨y5, F5, r5, hoe⟩ := H5.out
    exact dp_bad rfl rfl rfl rfl y5 r5 F5 hgb (Nat.le_refl _) hoe (by decide) (by decide) (by decide)
end Go.Proofs.YtdlljlmgoiobpaaGreatDoor
