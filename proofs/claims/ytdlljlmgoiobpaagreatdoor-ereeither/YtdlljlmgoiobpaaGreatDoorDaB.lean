/- The document's reader: a number. -/
import Derived.Test.YtdlljlmgoiobpaaGreatDoorDaA
import Derived.Deep.CutRange
import Derived.Deep.QuietTactic
import Derived.BigQuiet
namespace Go.Proofs.YtdlljlmgoiobpaaGreatDoor
open Go.RowKit Go.Maps
set_option maxRecDepth 100000 in
theorem digitr_any (c : UInt8) (w : World) : Calls Tryz.prog 70 #[.int .u8 (c.toNat : Int)] w fun e w' => e = .returned (.bool (isD c)) ∧ w' = w := by
  by_cases h1 : 48 ≤ (c.toNat : Int)
  · by_cases h2 : (c.toNat : Int) ≤ 57
    · have := isD_yes h1 h2
      rw [this]
      go_enter Tryz.func70, Tryz.ntmps70
      go_wp2
      go_ret
      exact ⟨rfl, rfl⟩
    · have := isD_no (c := c) (.inr (by omega))
      rw [this]
      go_enter Tryz.func70, Tryz.ntmps70
      go_wp2
      go_ret
      exact ⟨rfl, rfl⟩
  · have := isD_no (c := c) (.inl (by omega))
    rw [this]
    go_enter Tryz.func70, Tryz.ntmps70
    go_wp2
    go_ret
    exact ⟨rfl, rfl⟩
theorem EB.drew {W : World} {b : Nat} {s : ByteArray} {i er at_ d : Int} (h : EB W b s i er at_ d) : EB W.drew b s i er at_ d := h
def RNumP (b : Nat) (s : ByteArray) (at_ d : Int) (o : Res Int) (w : World) (e : Ending) (w' : World) : Prop := FrE b w w' ∧ match o with
  | .bad r => (r = 2 ∨ r = 3) ∧ ∃ n i' at', e = .returned (.int .i64 n) ∧ EB w' b s i' (r : Int) at' d ∧ -1 ≤ n ∧ n ≤ 999999999
  | .ok n j => e = .returned (.int .i64 n) ∧ EB w' b s (j : Int) 0 at_ d
set_option maxRecDepth 100000 in
set_option maxHeartbeats 2000000 in
theorem rnum_any (b : Nat) (s : ByteArray) (i : Nat) (at_ d least : Int) (w : World) (h : EB w b s (i : Int) 0 at_ d) (hi : i ≤ s.size) (hs : s.size ≤ 200) (hl0 : 0 ≤ least) :
    Calls Tryz.prog 53 #[.pointer (some ⟨b, 0, none⟩), .int .i64 least] w (RNumP b s at_ d (numD s.data.toList i least) w) := by
  have hsl : s.data.toList.length = s.size := by simp
  obtain ⟨c0, c1, c2, c3, c4, cf, hl⟩ := h.cells
  have HR := hide h
  clear h cf c2 c3 c4 hl
  go_enter Tryz.func53, Tryz.ntmps53
  go_wp2
  go_loopg [41] 3 (fun m _ wr => ∃ k, k + m = 3 ∧ (∀ j, j < k → digB s.data.toList[i + j]? = true) ∧ EB wr b s ((i + k : Nat) : Int) 0 at_ d ∧ FrE b w wr)
  case atStart => exact ⟨0, rfl, fun j hj => by omega, HR.out, FrE.refl _ _⟩
  case round =>
    obtain ⟨k, hkm, hk, hr, hf⟩ := hrel
    have hroom := digs_room hk (by rw [hsl]; exact hi)
    rw [hsl] at hroom
    clear c0 c1 HR
    obtain ⟨q, hq⟩ : ∃ q, i + k = q := ⟨_, rfl⟩
    rw [hq] at hr hroom
    obtain ⟨y0, y1, y2, y3, y4, yf, yl⟩ := hr.cells
    have g1 := yf 1
    have hiq : (i : Int) ≤ (q : Int) := by omega
    have hqk : (q : Int) < (i : Int) + 3 ↔ k < 3 := by omega
    have hwi : IntKind.i64.wrap ((i : Int) + 3) = (i : Int) + 3 := by rw [IntKind.wrap_i64]; omega
    by_cases hgo : q < s.size ∧ digB s.data.toList[q]? = true ∧ k < 3
    · obtain ⟨hlt, hdg, hk3⟩ := hgo
      have hge : s.data.toList[q]? = some s[q] := by rw [List.getElem?_eq_getElem (by simpa using hlt)]; rfl
      have hdt : isD s[q] = true := by rw [← digB_isD, ← hge]; exact hdg
      have hca := fun w => digitr_any s[q] w
      rw [hdt] at hca
      have hqI : (q : Int) < (s.size : Int) := by omega
      have hq3 : (q : Int) < (i : Int) + 3 := by omega
      have HK := hide (⟨hk, hr, hf, hdg, hq⟩ : _ ∧ _ ∧ _ ∧ _ ∧ _)
      clear hk hr hf hdg hge hdt yf y2 y3 y4 hq hqk hsl
      go_wp2_with fail
      go_region_held3 (fun w' => w'.cell? ⟨b, 0, none⟩ = some (.string s) ∧ w'.cell? ⟨b, 1, none⟩ = some (.int .i64 (q : Int))) (go_keep) (first | (go_at_call 70; refine (hca _).mono ?_; rintro e w5 ⟨rfl, rfl⟩))
      go_wp2
      obtain ⟨hk, hr, hf, hdg, hq⟩ := HK.out
      go_roundg (gk - 1)
      case measure => omega
      case rel =>
        have f1 := hf.drew.trans (FrE.set b wr.drew 1 (.int .i64 ((q : Int) + 1)))
        have r1 : EB (wr.drew.setCell ⟨b, 1, none⟩ (.int .i64 ((q : Int) + 1))) b s ((i + (k + 1) : Nat) : Int) 0 at_ d := by
          have := EB.set1 (W := wr.drew) hr ((q : Int) + 1)
          rw [show ((i + (k + 1) : Nat) : Int) = (q : Int) + 1 by omega]
          exact this
        refine ⟨k + 1, by omega, fun j hj => ?_, r1, f1⟩
        by_cases hjk : j < k
        · exact hk j hjk
        · have : j = k := by omega
          subst this
          rw [hq]; exact hdg
    · have hend : digs s.data.toList i = k := by
        refine digs_at hk (by omega) ?_
        by_cases h3 : k = 3
        · exact .inl h3
        · right
          rw [hq]
          by_cases hlt : q < s.size
          · cases hdb : digB s.data.toList[q]? with
            | false => rfl
            | true => exact absurd ⟨hlt, hdb, by omega⟩ hgo
          · rw [List.getElem?_eq_none (by omega)]; rfl
      have ht : (s.extract i q).data.toList = (s.data.toList.drop i).take k := by
        rw [ByteArray.data_extract, Array.toList_extract, List.extract_eq_take_drop, show q - i = k by omega]
      have hnum := fun w => refnum3_any (s.extract i q) w (by
        have : (s.extract i q).size = ((s.data.toList.drop i).take k).length := by rw [← ht, Array.length_toList]; rfl
        rw [this, List.length_take]
        unfold maxLen
        omega)
      have hgood : good (s.extract i q).data.toList = decide (1 ≤ k) := by
        rw [ht]
        unfold good
        rw [digs_all hk, Bool.true_and]
        have hl : ((s.data.toList.drop i).take k).length = k := by rw [List.length_take, List.length_drop, hsl]; omega
        rw [hl, decide_eq_decide]
        omega
      have hnJ : nJ (s.extract i q) = if 1 ≤ k then numV s.data.toList i else -1 := by
        unfold nJ
        by_cases h1 : 1 ≤ k
        · rw [if_pos h1, numJ_yes (by rw [hgood, decide_eq_true h1]), ht]
          unfold numV
          rw [hend]
        · rw [if_neg h1, numJ_no (by rw [hgood, decide_eq_false h1])]
      have hbd : 1 ≤ k → 0 ≤ numV s.data.toList i ∧ numV s.data.toList i ≤ 999999999 := fun h1 => by
        unfold numV
        rw [hend]
        exact dval_bd _ (digs_all hk) (by rw [List.length_take]; omega)
      obtain ⟨nv, hnv⟩ : ∃ nv, nJ (s.extract i q) = nv := ⟨_, rfl⟩
      rw [hnv] at hnum hnJ
      have hiq' : (i : Int) ≤ (q : Int) := by omega
      have hqs : (q : Int) ≤ (s.size : Int) := by omega
      have hi0 : (0 : Int) ≤ (i : Int) := by omega
      have HE := hide (⟨hend, hnJ, hbd⟩ : _ ∧ _ ∧ _)
      have HK := hide (⟨hk, hr, hf, hq⟩ : _ ∧ _ ∧ _ ∧ _)
      have hcase : (¬ q < s.size) ∨ (∃ h : q < s.size, isD s[q] = false) ∨ (∃ h : q < s.size, isD s[q] = true ∧ ¬ k < 3) := by
        by_cases hlt : q < s.size
        · right
          have hge : s.data.toList[q]? = some s[q] := by rw [List.getElem?_eq_getElem (by simpa using hlt)]; rfl
          rw [hge, digB_isD] at hgo
          cases hdb : isD s[q] with
          | false => exact .inl ⟨hlt, hdb⟩
          | true => exact .inr ⟨hlt, hdb, fun h3 => hgo ⟨hlt, hdb, h3⟩⟩
        · exact .inl hlt
      clear hend hnJ hbd hgood ht hnv hk hr hf hgo hsl yf y2 y3 y4 hq
      go_wp2_with fail
      go_cut [41] from 11 to 48 (fun cv wx => cv = .bool false ∧ ∃ n, wx = wr.drewN n)
      case first =>
        rcases hcase with hlt | ⟨hlt, hd⟩ | ⟨hlt, hd, hk3⟩
        · have hnI : ¬ ((q : Int) < (s.size : Int)) := by omega
          have hdn : decide (q < s.size) = false := decide_eq_false hlt
          go_region
          all_goals go_wp2
          all_goals go_meet
          all_goals exact ⟨rfl, 1, rfl⟩
        · have hqI : (q : Int) < (s.size : Int) := by omega
          have hca := fun w => digitr_any s[q] w
          rw [hd] at hca
          go_quiet ((go_at_call 70; exact Calls.quiet_of_same (hca _)))
          all_goals go_wp2
          all_goals go_meet
          all_goals exact ⟨rfl, _, rfl⟩
        · have hqI : (q : Int) < (s.size : Int) := by omega
          have hca := fun w => digitr_any s[q] w
          have hq3 : ¬ ((q : Int) < (i : Int) + 3) := by omega
          rw [hd] at hca
          go_region_held3 (fun w' => w'.cell? ⟨b, 0, none⟩ = some (.string s) ∧ w'.cell? ⟨b, 1, none⟩ = some (.int .i64 (q : Int))) (go_keep) (first | (go_at_call 70; refine (hca _).mono ?_; rintro e w5 ⟨rfl, rfl⟩))
          all_goals go_wp2
          all_goals go_meet
          all_goals exact ⟨rfl, 1, rfl⟩
      case rest =>
        obtain ⟨rfl, nq, hwc⟩ := hcut
        obtain ⟨hk, hr, hf, hq⟩ := HK.out
        have r2 : EB wc b s (q : Int) 0 at_ d := by rw [hwc]; exact hr
        have f2 : FrE b w wc := by rw [hwc]; exact ⟨hf.os, hf.tape, hf.output, hf.size, hf.block⟩
        clear hwc hcase hr hf y0 y1 g1 yl
        obtain ⟨y0, y1, y2, y3, y4, yf, yl⟩ := r2.cells
        have H2 := hide (⟨r2, f2, hq⟩ : _ ∧ _ ∧ _)
        clear r2 f2 hk HK hq
        go_upto_region 4 with fail
        go_cut [6] from 7 (fun nw we => nw = .int .i64 nv ∧ we = wc.drew)
        case first =>
          go_region_with (go_at_call 71; refine (hnum _).mono ?_; rintro e w2 ⟨rfl, hw⟩; rw [hw]; clear hw)
          all_goals go_wp2
          all_goals go_meet
          all_goals exact ⟨rfl, rfl⟩
        case rest =>
          obtain ⟨rfl, hwe⟩ := hcut
          rw [hwe]
          clear hwe hnum
          have r3 := EB.drew H2.out.1
          have f3 := H2.out.2.1.drew
          obtain ⟨hend, hnJ, hbd⟩ := HE.out
          by_cases h1 : 1 ≤ k
          · rw [if_pos h1] at hnJ
            obtain ⟨hb0, hb1⟩ := hbd h1
            rw [← hnJ] at hb0 hb1
            have hN : numD s.data.toList i least = if 255 < nv ∨ nv < least then .bad 3 else .ok nv q := by
              unfold numD
              rw [hend, if_neg (by omega), ← hnJ]
              by_cases hbad : 255 < nv ∨ nv < least
              · rw [if_pos hbad, if_pos hbad]
              · rw [if_neg hbad, if_neg hbad, H2.out.2.2]
            have hn0 : ¬ nv < 0 := by omega
            by_cases hbad : 255 < nv ∨ nv < least
            · rw [if_pos hbad] at hN
              have hfl := fail_ok b s q at_ d 3 (i : Int) _ r3
              have H3 := hide (⟨hN, f3, hb0, hb1⟩ : _ ∧ _ ∧ _ ∧ _)
              clear hN f3 r3 hend hnJ hbd hb0 hb1 HE H2
              by_cases h255 : 255 < nv
              · go_wp2_with fail
                refine hfl.mono ?_
                rintro e w5 ⟨rfl, r5, f5⟩
                go_wp2
                go_ret
                refine ⟨H3.out.2.1.trans f5, ?_⟩
                rw [H3.out.1]
                exact ⟨.inr rfl, _, _, _, rfl, r5, by have := H3.out.2.2; omega, by have := H3.out.2.2; omega⟩
              · have hlt : nv < least := by omega
                go_wp2_with fail
                refine hfl.mono ?_
                rintro e w5 ⟨rfl, r5, f5⟩
                go_wp2
                go_ret
                refine ⟨H3.out.2.1.trans f5, ?_⟩
                rw [H3.out.1]
                exact ⟨.inr rfl, _, _, _, rfl, r5, by have := H3.out.2.2; omega, by have := H3.out.2.2; omega⟩
            · rw [if_neg hbad] at hN
              have h255 : ¬ 255 < nv := by omega
              have hlt : ¬ nv < least := by omega
              have H3 := hide (⟨hN, f3, r3⟩ : _ ∧ _ ∧ _)
              clear hN f3 r3 hend hnJ hbd hb0 hb1 HE H2 hbad
              go_wp2
              go_ret
              refine ⟨H3.out.2.1, ?_⟩
              rw [H3.out.1]
              exact ⟨rfl, H3.out.2.2⟩
          · rw [if_neg h1] at hnJ
            have hN : numD s.data.toList i least = .bad 2 := by
              unfold numD
              rw [hend, if_pos (by omega)]
            have hfl := fail_ok b s q at_ d 2 (q : Int) _ r3
            subst hnJ
            have hlt : (-1 : Int) < least := by omega
            have H3 := hide (⟨hN, f3⟩ : _ ∧ _)
            clear hN f3 r3 hend hbd HE H2
            go_wp2_with fail
            refine hfl.mono ?_
            rintro e w5 ⟨rfl, r5, f5⟩
            have hfl2 := fail_no b s q 2 q d 3 (i : Int) w5 r5 (by decide)
            have H5 := hide (⟨r5, f5⟩ : _ ∧ _)
            clear r5 f5 hfl
            go_wp2_with fail
            refine hfl2.mono ?_
            rintro e w6 ⟨rfl, hw⟩
            rw [hw]
            clear hw
            go_wp2
            go_ret
            refine ⟨H3.out.2.trans H5.out.2, ?_⟩
            rw [H3.out.1]
            exact ⟨.inl rfl, _, _, _, rfl, H5.out.1, by omega, by omega⟩
end Go.Proofs.YtdlljlmgoiobpaaGreatDoor
