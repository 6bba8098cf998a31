/- The program's find: a path that begins with a slash. -/
import Derived.Test.YtehbjabneocflaaDoorCStep
namespace Go.Proofs.YtehbjabneocflaaDoor
open Go.RowKit
theorem c_mk2 {T : Nat} {a6 a7 a9 ax : Addr} {b links : Nat} {v : Value} {r : FRes} {w w' : World} {y : Int} (h : r = (0, y, links)) (ha : errV T a6 a7 a9 y = .iface T (.pointer (some ax))) (hf : FB 57 w' b v links) (hg : w.grownBy w' (some b)) : CPost T a6 a7 a9 v b r w (.returned (.tuple #[.int .i64 0, .iface T (.pointer (some ax))])) w' := by
  subst h
  exact ⟨by rw [← ha]; rfl, hf, hg⟩

set_option maxRecDepth 100000 in
set_option maxHeartbeats 4000000 in
theorem cfind_tts (T : Nat) (a6 a7 a9 : Addr) (L : List NodeD) (v : Value) (C b F : Nat) (h6 : 6 < C) (hC : C ≤ b) (hwf : WF L) (IH : CFindOK T a6 a7 a9 L v C b F) (k : Nat) (s : ByteArray) (links : Nat) (w : World) (hk : k < L.length) (hs : s.size ≤ 1073741824) (hl : links ≤ 40) (hF : 41 ≤ F + 1 + links) (hrow : NodeRow C w v L) (hfb : FB 57 w b v links) (herr : Errs T a6 a7 a9 w)
    (h1 : 1 ≤ s.size) (hes : endsSlash s = true) (hc : (s[0].toNat : Int) = 47) :
    Calls Tryd.prog 27 #[.pointer (some ⟨b, 0, none⟩), .int .i64 (k : Int), .string s, .bool true] w (CPost T a6 a7 a9 v b (findD L (F + 1) k s true links) w) := by
  have he := emp_no h1
  have hlen := hwf.len
  have hpl := partsS_length s
  have HFD : Hid (findD L (F + 1) k s true links = endD L true (goD L (fun k t l => findD L F k t true l) true (partsS s) 0 links)) := by
    unfold Hid
    conv => lhs; unfold findD
    rw [he, hes, start_yes h1 hc k]
    rfl
  obtain ⟨g, cap, rfl, hg, hcap, hx⟩ : ∃ g cap, v = .slice (some ⟨g, 0, none⟩) L.length cap ∧ g < C ∧ L.length ≤ cap ∧ ∀ (i : Nat) (n : NodeD), L[i]? = some n → ∃ kv, NodeAt w g i n kv ∧ IntRow C w kv n.kids := by
    rcases hrow with ⟨_, rfl⟩ | h
    · simp at hk
    · exact h
  have HROW := hide hrow
  have HFB := hide hfb
  have HIH := hide IH
  have HWF := hide hwf
  have HERR := hide herr
  have hbl := hfb.lt
  have cc0 := hfb.c0
  have HP := hide (parts_any s w (by omega))
  have HSU := hide (suffix_any s w h1 (by omega))
  have HN := hide (hasNode_yes (some ⟨g, 0, none⟩) L.length cap (k : Int) w (by omega) (by omega))
  have hcb : ((s[0].toNat : Int) == 47) = true := by rw [beq_iff_eq]; exact hc
  have HES := hide hes
  clear hrow hfb IH hwf hx hc hes herr
  go_enter Tryd.func27, Tryd.ntmps27
  go_wp2_with fail
  refine (unhide HN).mono ?_
  rintro e ww ⟨rfl, hww⟩
  rw [hww]
  clear hww
  go_wp2_with fail
  refine (unhide HSU).mono ?_
  rintro e ww2 ⟨rfl, hww⟩
  rw [hww, HES.out]
  clear hww
  go_wp2_with fail
  refine (unhide HP).mono ?_
  rintro e w1 ⟨v1, rfl, hown1, hb1⟩
  have hfb1 := (unhide HFB).below hb1 hbl
  have hg1 := grown_of_below (b := b) hb1
  obtain ⟨ps, hps⟩ : ∃ ps, ps = partsS s := ⟨_, rfl⟩
  rw [← hps] at hpl HFD hown1
  have hrow1 := StrRow.of_owns hown1
  clear hps
  by_cases hne : ps = []
  · obtain ⟨n, hn⟩ : ∃ n, L[0]? = some n := ⟨_, List.getElem?_eq_getElem (by omega)⟩
    have hnrow := (unhide HROW).grown hg1 hC
    obtain ⟨kvn, ⟨a0, a1, a2, a3, a4, a5, a6x⟩, _⟩ := hnrow.at_ hn
    have c0 := hfb1.c0
    have HER := hide ((unhide HERR).grown hg1 (by omega))
    have HFR := hide hfb1
    have HGR := hide hg1
    have HD := hide (isDirC_any n w1)
    subst hne
    obtain ⟨aa, cc, rfl⟩ := hrow1.nil
    clear hown1 hrow1 hfb1 hg1 hnrow HP
    go_wp2
    refine wp_loop_rounds 1 ?_
    rw [rounds_succ]
    cases hdn : dirD n
    · have HS : Hid (findD L (F + 1) k s true links = (0, 7, links)) := by
        unfold Hid
        rw [HFD.out]
        unfold goD endD
        rw [if_pos rfl, hn]
        show (if (true && !dirD n) = true then _ else _) = _
        rw [hdn]; rfl
      have e7 := (unhide HER).2.1
      go_wp2_with fail
      refine (unhide HD).mono ?_
      rintro e ww ⟨rfl, rfl⟩
      rw [hdn]
      go_wp2
      go_quiet (fail)
      go_wp2
      go_ret2
      exact c_mk (x := 0) (y := 7) HS.out (by omega) (show FB 57 (World.drewN _ nq) _ _ _ from unhide HFR) ((unhide HGR).trans (grown_of_below (below_drewN (Below.refl _ _) nq)))
    · have HS : Hid (findD L (F + 1) k s true links = (0, 0, links)) := by
        unfold Hid
        rw [HFD.out]
        unfold goD endD
        rw [if_pos rfl, hn]
        show (if (true && !dirD n) = true then _ else _) = _
        rw [hdn]; rfl
      go_wp2_with fail
      refine (unhide HD).mono ?_
      rintro e ww ⟨rfl, rfl⟩
      rw [hdn]
      go_wp2
      go_ret2
      exact c_mk (y := 0) HS.out (by omega) (unhide HFR) (unhide HGR)
  · obtain ⟨g1, cap1, rfl, hg1l, hcap1, hx1⟩ := hrow1.more hne
    have hg1b := (hown1.lt g1 rfl).1
    have hgb1 : g1 ≠ b := by omega
    clear hown1 hx1 HP hne
    go_wp2
    go_loopw [10, 40] (fun kv iv wr => ∃ (j kk ln : Nat), j ≤ ps.length ∧ iv = .int .i64 j ∧ kv = .int .i64 kk ∧ kk < L.length ∧ ln ≤ 40 ∧ links ≤ ln ∧ FB 57 wr b (.slice (some ⟨g, 0, none⟩) L.length cap) ln ∧ w.grownBy wr (some b) ∧ StrRow w1.heap.size wr (.slice (some ⟨g1, 0, none⟩) ps.length cap1) ps ∧ goD L (fun k t l => findD L F k t true l) true (ps.drop j) kk ln = goD L (fun k t l => findD L F k t true l) true ps 0 links)
      (fun _ iv _ => ps.length - (intOf iv).toNat)
    case atStart => exact ⟨0, 0, links, Nat.zero_le _, rfl, rfl, by omega, hl, Nat.le_refl _, hfb1, hg1, hrow1, rfl⟩
    case round =>
      obtain ⟨j, kk, ln, hj, rfl, rfl, hkk, hln, hln2, hfbr, hgr, hrowr, hG⟩ := hrel
      obtain ⟨n, hn⟩ : ∃ n, L[kk]? = some n := ⟨_, List.getElem?_eq_getElem hkk⟩
      have hnrow := (unhide HROW).grown hgr hC
      obtain ⟨kvn, ⟨a0, a1, a2, a3, a4, a5, a6x⟩, _⟩ := hnrow.at_ hn
      have c0 := hfbr.c0
      have HER := hide ((unhide HERR).grown hgr (by omega))
      have HG := hide hG
      have HFR := hide hfbr
      have HGR := hide hgr
      have HRR := hide hrowr
      have HNR := hide hnrow
      have HD := hide (isDirC_any n wr)
      clear hG hfbr hgr hrowr hnrow hfb1 hg1 hrow1
      by_cases hlt : j < ps.length
      · obtain ⟨p, hp⟩ : ∃ p, ps[j]? = some p := ⟨_, List.getElem?_eq_getElem hlt⟩
        have cp := (unhide HRR).at_ hp
        by_cases hjl : j < ps.length - 1
        · have hjd : (j : Int) < (ps.length : Int) - 1 := by omega
          cases hdn : dirD n
          · have HS : Hid (findD L (F + 1) k s true links = (0, 7, ln)) := by unfold Hid; rw [HFD.out, ← HG.out, go_dir hp hn hdn]; rfl
            clear hp
            go_wp2_with fail
            refine (cstep_no T a6 a7 a9 L _ C b h6 hC (by omega) kk n p true ln wr hn hdn (unhide HNR) (unhide HFR) (unhide HER)).mono ?_
            rintro e w3 ⟨rfl, hfb3, hg3⟩
            rw [errV7]
            have HF3 := hide hfb3
            have HG3 := hide ((unhide HGR).trans hg3)
            clear hfb3 hg3
            go_wp2
            go_ret2
            exact c_mk (x := 0) (y := 7) HS.out (by omega) (unhide HF3) (unhide HG3)
          · have HC := hide (go_cons (thr := (fun k t l => findD L F k t true l)) (last := true) (links := ln) hp hn hdn)
            clear hp
            simp only [Bool.true_or] at HC
            go_wp2_with fail
            refine (cstep_any T a6 a7 a9 L _ C b F h6 hC (unhide HWF) (unhide HIH) kk n p true ln wr hn hdn hln (by omega) (unhide HNR) (unhide HFR) (unhide HER)).mono ?_
            rintro e w3 ⟨rfl, hfb3, hg3⟩
            have hok := step_ok (unhide HWF) (fun k t l hk hl => find_ok (unhide HWF) F k t true l hk hl) hn p true hln
            obtain ⟨r, hr⟩ : ∃ r, r = stepD L (fun k t l => findD L F k t true l) kk n p true ln := ⟨_, rfl⟩
            rw [← hr] at HC hfb3 hok ⊢
            obtain ⟨rn, re, rl⟩ := r
            dsimp only at HC hfb3 hok ⊢
            clear hr
            by_cases hre : re = 0
            · subst hre
              have HG2 : Hid (goD L (fun k t l => findD L F k t true l) true (ps.drop (j + 1)) rn rl = goD L (fun k t l => findD L F k t true l) true ps 0 links) := by
                unfold Hid
                rw [← HG.out]
                exact (HC.out).symm
              have HR3 := hide ((unhide HRR).grown hg3 hgb1)
              have HF3 := hide hfb3
              have HG3 := hide ((unhide HGR).trans hg3)
              have hok1 : rn < L.length := hok.1
              have hok2 : rl ≤ 40 := hok.2.1
              have hok3 : ln ≤ rl := hok.2.2
              clear hfb3 hg3 hok HC
              rw [errV0]
              go_wp2
              go_roundw
              case rel => exact ⟨j + 1, rn, rl, by omega, by go_num, rfl, hok1, hok2, by omega, unhide HF3, unhide HG3, unhide HR3, HG2.out⟩
              case measure => simp [intOf]; omega
            · have HS : Hid (findD L (F + 1) k s true links = (0, re, rl)) := by
                unfold Hid
                have e2 := HC.out
                rw [if_neg hre] at e2
                rw [HFD.out, ← HG.out, e2]
                unfold endD
                rw [if_neg hre]
              have HF3 := hide hfb3
              have HG3 := hide ((unhide HGR).trans hg3)
              obtain ⟨ax, hax⟩ : ∃ ax, errV T a6 a7 a9 re = .iface T (.pointer (some ax)) := ⟨_, by unfold errV; rw [if_neg hre]⟩
              have HAX := hide hax
              clear hfb3 hg3 hok HC
              rw [hax]
              clear hax
              go_wp2
              go_ret2
              refine c_mk2 HS.out HAX.out (unhide HF3) (unhide HG3)
        · have hjd : ¬ (j : Int) < (ps.length : Int) - 1 := by omega
          have hjd2 : decide ((j : Int) < (ps.length : Int) - 1) = false := decide_eq_false hjd
          cases hdn : dirD n
          · have HS : Hid (findD L (F + 1) k s true links = (0, 7, ln)) := by unfold Hid; rw [HFD.out, ← HG.out, go_dir hp hn hdn]; rfl
            clear hp
            go_wp2_with fail
            refine (cstep_no T a6 a7 a9 L _ C b h6 hC (by omega) kk n p true ln wr hn hdn (unhide HNR) (unhide HFR) (unhide HER)).mono ?_
            rintro e w3 ⟨rfl, hfb3, hg3⟩
            rw [errV7]
            have HF3 := hide hfb3
            have HG3 := hide ((unhide HGR).trans hg3)
            clear hfb3 hg3
            go_wp2
            go_ret2
            exact c_mk (x := 0) (y := 7) HS.out (by omega) (unhide HF3) (unhide HG3)
          · have HC := hide (go_cons (thr := (fun k t l => findD L F k t true l)) (last := true) (links := ln) hp hn hdn)
            clear hp
            simp only [Bool.true_or] at HC
            go_wp2_with fail
            refine (cstep_any T a6 a7 a9 L _ C b F h6 hC (unhide HWF) (unhide HIH) kk n p true ln wr hn hdn hln (by omega) (unhide HNR) (unhide HFR) (unhide HER)).mono ?_
            rintro e w3 ⟨rfl, hfb3, hg3⟩
            have hok := step_ok (unhide HWF) (fun k t l hk hl => find_ok (unhide HWF) F k t true l hk hl) hn p true hln
            obtain ⟨r, hr⟩ : ∃ r, r = stepD L (fun k t l => findD L F k t true l) kk n p true ln := ⟨_, rfl⟩
            rw [← hr] at HC hfb3 hok ⊢
            obtain ⟨rn, re, rl⟩ := r
            dsimp only at HC hfb3 hok ⊢
            clear hr
            by_cases hre : re = 0
            · subst hre
              have HG2 : Hid (goD L (fun k t l => findD L F k t true l) true (ps.drop (j + 1)) rn rl = goD L (fun k t l => findD L F k t true l) true ps 0 links) := by
                unfold Hid
                rw [← HG.out]
                exact (HC.out).symm
              have HR3 := hide ((unhide HRR).grown hg3 hgb1)
              have HF3 := hide hfb3
              have HG3 := hide ((unhide HGR).trans hg3)
              have hok1 : rn < L.length := hok.1
              have hok2 : rl ≤ 40 := hok.2.1
              have hok3 : ln ≤ rl := hok.2.2
              clear hfb3 hg3 hok HC
              rw [errV0]
              go_wp2
              go_roundw
              case rel => exact ⟨j + 1, rn, rl, by omega, by go_num, rfl, hok1, hok2, by omega, unhide HF3, unhide HG3, unhide HR3, HG2.out⟩
              case measure => simp [intOf]; omega
            · have HS : Hid (findD L (F + 1) k s true links = (0, re, rl)) := by
                unfold Hid
                have e2 := HC.out
                rw [if_neg hre] at e2
                rw [HFD.out, ← HG.out, e2]
                unfold endD
                rw [if_neg hre]
              have HF3 := hide hfb3
              have HG3 := hide ((unhide HGR).trans hg3)
              obtain ⟨ax, hax⟩ : ∃ ax, errV T a6 a7 a9 re = .iface T (.pointer (some ax)) := ⟨_, by unfold errV; rw [if_neg hre]⟩
              have HAX := hide hax
              clear hfb3 hg3 hok HC
              rw [hax]
              clear hax
              go_wp2
              go_ret2
              refine c_mk2 HS.out HAX.out (unhide HF3) (unhide HG3)
      · obtain rfl : j = ps.length := by omega
        cases hdn : dirD n
        · have HS : Hid (findD L (F + 1) k s true links = (0, 7, ln)) := by
            unfold Hid
            rw [HFD.out, ← HG.out, List.drop_length]
            unfold goD endD
            rw [if_pos rfl, hn]
            show (if (true && !dirD n) = true then _ else _) = _
            rw [hdn]; rfl
          have e7 := (unhide HER).2.1
          go_wp2_with fail
          refine (unhide HD).mono ?_
          rintro e ww ⟨rfl, rfl⟩
          rw [hdn]
          go_wp2
          go_quiet (fail)
          go_wp2
          go_ret2
          exact c_mk (x := 0) (y := 7) HS.out (by omega) (show FB 57 (World.drewN _ nq) _ _ _ from unhide HFR) ((unhide HGR).trans (grown_of_below (below_drewN (Below.refl _ _) nq)))
        · have HS : Hid (findD L (F + 1) k s true links = (kk, 0, ln)) := by
            unfold Hid
            rw [HFD.out, ← HG.out, List.drop_length]
            unfold goD endD
            rw [if_pos rfl, hn]
            show (if (true && !dirD n) = true then _ else _) = _
            rw [hdn]; rfl
          go_wp2_with fail
          refine (unhide HD).mono ?_
          rintro e ww ⟨rfl, rfl⟩
          rw [hdn]
          go_wp2
          go_ret2
          exact c_mk (y := 0) HS.out (by omega) (unhide HFR) (unhide HGR)

set_option maxRecDepth 100000 in
set_option maxHeartbeats 4000000 in
theorem cfind_tfs (T : Nat) (a6 a7 a9 : Addr) (L : List NodeD) (v : Value) (C b F : Nat) (h6 : 6 < C) (hC : C ≤ b) (hwf : WF L) (IH : CFindOK T a6 a7 a9 L v C b F) (k : Nat) (s : ByteArray) (links : Nat) (w : World) (hk : k < L.length) (hs : s.size ≤ 1073741824) (hl : links ≤ 40) (hF : 41 ≤ F + 1 + links) (hrow : NodeRow C w v L) (hfb : FB 57 w b v links) (herr : Errs T a6 a7 a9 w)
    (h1 : 1 ≤ s.size) (hes : endsSlash s = false) (hc : (s[0].toNat : Int) = 47) :
    Calls Tryd.prog 27 #[.pointer (some ⟨b, 0, none⟩), .int .i64 (k : Int), .string s, .bool true] w (CPost T a6 a7 a9 v b (findD L (F + 1) k s true links) w) := by
  have he := emp_no h1
  have hlen := hwf.len
  have hpl := partsS_length s
  have HFD : Hid (findD L (F + 1) k s true links = endD L false (goD L (fun k t l => findD L F k t true l) true (partsS s) 0 links)) := by
    unfold Hid
    conv => lhs; unfold findD
    rw [he, hes, start_yes h1 hc k]
    rfl
  obtain ⟨g, cap, rfl, hg, hcap, hx⟩ : ∃ g cap, v = .slice (some ⟨g, 0, none⟩) L.length cap ∧ g < C ∧ L.length ≤ cap ∧ ∀ (i : Nat) (n : NodeD), L[i]? = some n → ∃ kv, NodeAt w g i n kv ∧ IntRow C w kv n.kids := by
    rcases hrow with ⟨_, rfl⟩ | h
    · simp at hk
    · exact h
  have HROW := hide hrow
  have HFB := hide hfb
  have HIH := hide IH
  have HWF := hide hwf
  have HERR := hide herr
  have hbl := hfb.lt
  have cc0 := hfb.c0
  have HP := hide (parts_any s w (by omega))
  have HSU := hide (suffix_any s w h1 (by omega))
  have HN := hide (hasNode_yes (some ⟨g, 0, none⟩) L.length cap (k : Int) w (by omega) (by omega))
  have hcb : ((s[0].toNat : Int) == 47) = true := by rw [beq_iff_eq]; exact hc
  have HES := hide hes
  clear hrow hfb IH hwf hx hc hes herr
  go_enter Tryd.func27, Tryd.ntmps27
  go_wp2_with fail
  refine (unhide HN).mono ?_
  rintro e ww ⟨rfl, hww⟩
  rw [hww]
  clear hww
  go_wp2_with fail
  refine (unhide HSU).mono ?_
  rintro e ww2 ⟨rfl, hww⟩
  rw [hww, HES.out]
  clear hww
  go_wp2_with fail
  refine (unhide HP).mono ?_
  rintro e w1 ⟨v1, rfl, hown1, hb1⟩
  have hfb1 := (unhide HFB).below hb1 hbl
  have hg1 := grown_of_below (b := b) hb1
  obtain ⟨ps, hps⟩ : ∃ ps, ps = partsS s := ⟨_, rfl⟩
  rw [← hps] at hpl HFD hown1
  have hrow1 := StrRow.of_owns hown1
  clear hps
  by_cases hne : ps = []
  · obtain ⟨n, hn⟩ : ∃ n, L[0]? = some n := ⟨_, List.getElem?_eq_getElem (by omega)⟩
    have hnrow := (unhide HROW).grown hg1 hC
    obtain ⟨kvn, ⟨a0, a1, a2, a3, a4, a5, a6x⟩, _⟩ := hnrow.at_ hn
    have c0 := hfb1.c0
    have HER := hide ((unhide HERR).grown hg1 (by omega))
    have HFR := hide hfb1
    have HGR := hide hg1
    have HD := hide (isDirC_any n w1)
    subst hne
    obtain ⟨aa, cc, rfl⟩ := hrow1.nil
    clear hown1 hrow1 hfb1 hg1 hnrow HP
    go_wp2
    refine wp_loop_rounds 1 ?_
    rw [rounds_succ]
    have HS : Hid (findD L (F + 1) k s true links = (0, 0, links)) := by
      unfold Hid
      rw [HFD.out]
      unfold goD endD
      rw [if_pos rfl, hn]
      rfl
    go_wp2
    go_ret2
    exact c_mk (y := 0) HS.out (by omega) (unhide HFR) (unhide HGR)
  · obtain ⟨g1, cap1, rfl, hg1l, hcap1, hx1⟩ := hrow1.more hne
    have hg1b := (hown1.lt g1 rfl).1
    have hgb1 : g1 ≠ b := by omega
    clear hown1 hx1 HP hne
    go_wp2
    go_loopw [10, 40] (fun kv iv wr => ∃ (j kk ln : Nat), j ≤ ps.length ∧ iv = .int .i64 j ∧ kv = .int .i64 kk ∧ kk < L.length ∧ ln ≤ 40 ∧ links ≤ ln ∧ FB 57 wr b (.slice (some ⟨g, 0, none⟩) L.length cap) ln ∧ w.grownBy wr (some b) ∧ StrRow w1.heap.size wr (.slice (some ⟨g1, 0, none⟩) ps.length cap1) ps ∧ goD L (fun k t l => findD L F k t true l) true (ps.drop j) kk ln = goD L (fun k t l => findD L F k t true l) true ps 0 links)
      (fun _ iv _ => ps.length - (intOf iv).toNat)
    case atStart => exact ⟨0, 0, links, Nat.zero_le _, rfl, rfl, by omega, hl, Nat.le_refl _, hfb1, hg1, hrow1, rfl⟩
    case round =>
      obtain ⟨j, kk, ln, hj, rfl, rfl, hkk, hln, hln2, hfbr, hgr, hrowr, hG⟩ := hrel
      obtain ⟨n, hn⟩ : ∃ n, L[kk]? = some n := ⟨_, List.getElem?_eq_getElem hkk⟩
      have hnrow := (unhide HROW).grown hgr hC
      obtain ⟨kvn, ⟨a0, a1, a2, a3, a4, a5, a6x⟩, _⟩ := hnrow.at_ hn
      have c0 := hfbr.c0
      have HER := hide ((unhide HERR).grown hgr (by omega))
      have HG := hide hG
      have HFR := hide hfbr
      have HGR := hide hgr
      have HRR := hide hrowr
      have HNR := hide hnrow
      have HD := hide (isDirC_any n wr)
      clear hG hfbr hgr hrowr hnrow hfb1 hg1 hrow1
      by_cases hlt : j < ps.length
      · obtain ⟨p, hp⟩ : ∃ p, ps[j]? = some p := ⟨_, List.getElem?_eq_getElem hlt⟩
        have cp := (unhide HRR).at_ hp
        by_cases hjl : j < ps.length - 1
        · have hjd : (j : Int) < (ps.length : Int) - 1 := by omega
          cases hdn : dirD n
          · have HS : Hid (findD L (F + 1) k s true links = (0, 7, ln)) := by unfold Hid; rw [HFD.out, ← HG.out, go_dir hp hn hdn]; rfl
            clear hp
            go_wp2_with fail
            refine (cstep_no T a6 a7 a9 L _ C b h6 hC (by omega) kk n p true ln wr hn hdn (unhide HNR) (unhide HFR) (unhide HER)).mono ?_
            rintro e w3 ⟨rfl, hfb3, hg3⟩
            rw [errV7]
            have HF3 := hide hfb3
            have HG3 := hide ((unhide HGR).trans hg3)
            clear hfb3 hg3
            go_wp2
            go_ret2
            exact c_mk (x := 0) (y := 7) HS.out (by omega) (unhide HF3) (unhide HG3)
          · have HC := hide (go_cons (thr := (fun k t l => findD L F k t true l)) (last := true) (links := ln) hp hn hdn)
            clear hp
            simp only [Bool.true_or] at HC
            go_wp2_with fail
            refine (cstep_any T a6 a7 a9 L _ C b F h6 hC (unhide HWF) (unhide HIH) kk n p true ln wr hn hdn hln (by omega) (unhide HNR) (unhide HFR) (unhide HER)).mono ?_
            rintro e w3 ⟨rfl, hfb3, hg3⟩
            have hok := step_ok (unhide HWF) (fun k t l hk hl => find_ok (unhide HWF) F k t true l hk hl) hn p true hln
            obtain ⟨r, hr⟩ : ∃ r, r = stepD L (fun k t l => findD L F k t true l) kk n p true ln := ⟨_, rfl⟩
            rw [← hr] at HC hfb3 hok ⊢
            obtain ⟨rn, re, rl⟩ := r
            dsimp only at HC hfb3 hok ⊢
            clear hr
            by_cases hre : re = 0
            · subst hre
              have HG2 : Hid (goD L (fun k t l => findD L F k t true l) true (ps.drop (j + 1)) rn rl = goD L (fun k t l => findD L F k t true l) true ps 0 links) := by
                unfold Hid
                rw [← HG.out]
                exact (HC.out).symm
              have HR3 := hide ((unhide HRR).grown hg3 hgb1)
              have HF3 := hide hfb3
              have HG3 := hide ((unhide HGR).trans hg3)
              have hok1 : rn < L.length := hok.1
              have hok2 : rl ≤ 40 := hok.2.1
              have hok3 : ln ≤ rl := hok.2.2
              clear hfb3 hg3 hok HC
              rw [errV0]
              go_wp2
              go_roundw
              case rel => exact ⟨j + 1, rn, rl, by omega, by go_num, rfl, hok1, hok2, by omega, unhide HF3, unhide HG3, unhide HR3, HG2.out⟩
              case measure => simp [intOf]; omega
            · have HS : Hid (findD L (F + 1) k s true links = (0, re, rl)) := by
                unfold Hid
                have e2 := HC.out
                rw [if_neg hre] at e2
                rw [HFD.out, ← HG.out, e2]
                unfold endD
                rw [if_neg hre]
              have HF3 := hide hfb3
              have HG3 := hide ((unhide HGR).trans hg3)
              obtain ⟨ax, hax⟩ : ∃ ax, errV T a6 a7 a9 re = .iface T (.pointer (some ax)) := ⟨_, by unfold errV; rw [if_neg hre]⟩
              have HAX := hide hax
              clear hfb3 hg3 hok HC
              rw [hax]
              clear hax
              go_wp2
              go_ret2
              refine c_mk2 HS.out HAX.out (unhide HF3) (unhide HG3)
        · have hjd : ¬ (j : Int) < (ps.length : Int) - 1 := by omega
          have hjd2 : decide ((j : Int) < (ps.length : Int) - 1) = false := decide_eq_false hjd
          cases hdn : dirD n
          · have HS : Hid (findD L (F + 1) k s true links = (0, 7, ln)) := by unfold Hid; rw [HFD.out, ← HG.out, go_dir hp hn hdn]; rfl
            clear hp
            go_wp2_with fail
            refine (cstep_no T a6 a7 a9 L _ C b h6 hC (by omega) kk n p true ln wr hn hdn (unhide HNR) (unhide HFR) (unhide HER)).mono ?_
            rintro e w3 ⟨rfl, hfb3, hg3⟩
            rw [errV7]
            have HF3 := hide hfb3
            have HG3 := hide ((unhide HGR).trans hg3)
            clear hfb3 hg3
            go_wp2
            go_ret2
            exact c_mk (x := 0) (y := 7) HS.out (by omega) (unhide HF3) (unhide HG3)
          · have HC := hide (go_cons (thr := (fun k t l => findD L F k t true l)) (last := true) (links := ln) hp hn hdn)
            clear hp
            simp only [Bool.true_or] at HC
            go_wp2_with fail
            refine (cstep_any T a6 a7 a9 L _ C b F h6 hC (unhide HWF) (unhide HIH) kk n p true ln wr hn hdn hln (by omega) (unhide HNR) (unhide HFR) (unhide HER)).mono ?_
            rintro e w3 ⟨rfl, hfb3, hg3⟩
            have hok := step_ok (unhide HWF) (fun k t l hk hl => find_ok (unhide HWF) F k t true l hk hl) hn p true hln
            obtain ⟨r, hr⟩ : ∃ r, r = stepD L (fun k t l => findD L F k t true l) kk n p true ln := ⟨_, rfl⟩
            rw [← hr] at HC hfb3 hok ⊢
            obtain ⟨rn, re, rl⟩ := r
            dsimp only at HC hfb3 hok ⊢
            clear hr
            by_cases hre : re = 0
            · subst hre
              have HG2 : Hid (goD L (fun k t l => findD L F k t true l) true (ps.drop (j + 1)) rn rl = goD L (fun k t l => findD L F k t true l) true ps 0 links) := by
                unfold Hid
                rw [← HG.out]
                exact (HC.out).symm
              have HR3 := hide ((unhide HRR).grown hg3 hgb1)
              have HF3 := hide hfb3
              have HG3 := hide ((unhide HGR).trans hg3)
              have hok1 : rn < L.length := hok.1
              have hok2 : rl ≤ 40 := hok.2.1
              have hok3 : ln ≤ rl := hok.2.2
              clear hfb3 hg3 hok HC
              rw [errV0]
              go_wp2
              go_roundw
              case rel => exact ⟨j + 1, rn, rl, by omega, by go_num, rfl, hok1, hok2, by omega, unhide HF3, unhide HG3, unhide HR3, HG2.out⟩
              case measure => simp [intOf]; omega
            · have HS : Hid (findD L (F + 1) k s true links = (0, re, rl)) := by
                unfold Hid
                have e2 := HC.out
                rw [if_neg hre] at e2
                rw [HFD.out, ← HG.out, e2]
                unfold endD
                rw [if_neg hre]
              have HF3 := hide hfb3
              have HG3 := hide ((unhide HGR).trans hg3)
              obtain ⟨ax, hax⟩ : ∃ ax, errV T a6 a7 a9 re = .iface T (.pointer (some ax)) := ⟨_, by unfold errV; rw [if_neg hre]⟩
              have HAX := hide hax
              clear hfb3 hg3 hok HC
              rw [hax]
              clear hax
              go_wp2
              go_ret2
              refine c_mk2 HS.out HAX.out (unhide HF3) (unhide HG3)
      · obtain rfl : j = ps.length := by omega
        have HS : Hid (findD L (F + 1) k s true links = (kk, 0, ln)) := by
          unfold Hid
          rw [HFD.out, ← HG.out, List.drop_length]
          unfold goD endD
          rw [if_pos rfl, hn]
          rfl
        go_wp2
        go_ret2
        exact c_mk (y := 0) HS.out (by omega) (unhide HFR) (unhide HGR)

set_option maxRecDepth 100000 in
set_option maxHeartbeats 4000000 in
theorem cfind_fts (T : Nat) (a6 a7 a9 : Addr) (L : List NodeD) (v : Value) (C b F : Nat) (h6 : 6 < C) (hC : C ≤ b) (hwf : WF L) (IH : CFindOK T a6 a7 a9 L v C b F) (k : Nat) (s : ByteArray) (links : Nat) (w : World) (hk : k < L.length) (hs : s.size ≤ 1073741824) (hl : links ≤ 40) (hF : 41 ≤ F + 1 + links) (hrow : NodeRow C w v L) (hfb : FB 57 w b v links) (herr : Errs T a6 a7 a9 w)
    (h1 : 1 ≤ s.size) (hes : endsSlash s = true) (hc : (s[0].toNat : Int) = 47) :
    Calls Tryd.prog 27 #[.pointer (some ⟨b, 0, none⟩), .int .i64 (k : Int), .string s, .bool false] w (CPost T a6 a7 a9 v b (findD L (F + 1) k s false links) w) := by
  have he := emp_no h1
  have hlen := hwf.len
  have hpl := partsS_length s
  have HFD : Hid (findD L (F + 1) k s false links = endD L true (goD L (fun k t l => findD L F k t true l) true (partsS s) 0 links)) := by
    unfold Hid
    conv => lhs; unfold findD
    rw [he, hes, start_yes h1 hc k]
    rfl
  obtain ⟨g, cap, rfl, hg, hcap, hx⟩ : ∃ g cap, v = .slice (some ⟨g, 0, none⟩) L.length cap ∧ g < C ∧ L.length ≤ cap ∧ ∀ (i : Nat) (n : NodeD), L[i]? = some n → ∃ kv, NodeAt w g i n kv ∧ IntRow C w kv n.kids := by
    rcases hrow with ⟨_, rfl⟩ | h
    · simp at hk
    · exact h
  have HROW := hide hrow
  have HFB := hide hfb
  have HIH := hide IH
  have HWF := hide hwf
  have HERR := hide herr
  have hbl := hfb.lt
  have cc0 := hfb.c0
  have HP := hide (parts_any s w (by omega))
  have HSU := hide (suffix_any s w h1 (by omega))
  have HN := hide (hasNode_yes (some ⟨g, 0, none⟩) L.length cap (k : Int) w (by omega) (by omega))
  have hcb : ((s[0].toNat : Int) == 47) = true := by rw [beq_iff_eq]; exact hc
  have HES := hide hes
  clear hrow hfb IH hwf hx hc hes herr
  go_enter Tryd.func27, Tryd.ntmps27
  go_wp2_with fail
  refine (unhide HN).mono ?_
  rintro e ww ⟨rfl, hww⟩
  rw [hww]
  clear hww
  go_wp2_with fail
  refine (unhide HSU).mono ?_
  rintro e ww2 ⟨rfl, hww⟩
  rw [hww, HES.out]
  clear hww
  go_wp2_with fail
  refine (unhide HP).mono ?_
  rintro e w1 ⟨v1, rfl, hown1, hb1⟩
  have hfb1 := (unhide HFB).below hb1 hbl
  have hg1 := grown_of_below (b := b) hb1
  obtain ⟨ps, hps⟩ : ∃ ps, ps = partsS s := ⟨_, rfl⟩
  rw [← hps] at hpl HFD hown1
  have hrow1 := StrRow.of_owns hown1
  clear hps
  by_cases hne : ps = []
  · obtain ⟨n, hn⟩ : ∃ n, L[0]? = some n := ⟨_, List.getElem?_eq_getElem (by omega)⟩
    have hnrow := (unhide HROW).grown hg1 hC
    obtain ⟨kvn, ⟨a0, a1, a2, a3, a4, a5, a6x⟩, _⟩ := hnrow.at_ hn
    have c0 := hfb1.c0
    have HER := hide ((unhide HERR).grown hg1 (by omega))
    have HFR := hide hfb1
    have HGR := hide hg1
    have HD := hide (isDirC_any n w1)
    subst hne
    obtain ⟨aa, cc, rfl⟩ := hrow1.nil
    clear hown1 hrow1 hfb1 hg1 hnrow HP
    go_wp2
    refine wp_loop_rounds 1 ?_
    rw [rounds_succ]
    cases hdn : dirD n
    · have HS : Hid (findD L (F + 1) k s false links = (0, 7, links)) := by
        unfold Hid
        rw [HFD.out]
        unfold goD endD
        rw [if_pos rfl, hn]
        show (if (true && !dirD n) = true then _ else _) = _
        rw [hdn]; rfl
      have e7 := (unhide HER).2.1
      go_wp2_with fail
      refine (unhide HD).mono ?_
      rintro e ww ⟨rfl, rfl⟩
      rw [hdn]
      go_wp2
      go_quiet (fail)
      go_wp2
      go_ret2
      exact c_mk (x := 0) (y := 7) HS.out (by omega) (show FB 57 (World.drewN _ nq) _ _ _ from unhide HFR) ((unhide HGR).trans (grown_of_below (below_drewN (Below.refl _ _) nq)))
    · have HS : Hid (findD L (F + 1) k s false links = (0, 0, links)) := by
        unfold Hid
        rw [HFD.out]
        unfold goD endD
        rw [if_pos rfl, hn]
        show (if (true && !dirD n) = true then _ else _) = _
        rw [hdn]; rfl
      go_wp2_with fail
      refine (unhide HD).mono ?_
      rintro e ww ⟨rfl, rfl⟩
      rw [hdn]
      go_wp2
      go_ret2
      exact c_mk (y := 0) HS.out (by omega) (unhide HFR) (unhide HGR)
  · obtain ⟨g1, cap1, rfl, hg1l, hcap1, hx1⟩ := hrow1.more hne
    have hg1b := (hown1.lt g1 rfl).1
    have hgb1 : g1 ≠ b := by omega
    clear hown1 hx1 HP hne
    go_wp2
    go_loopw [10, 40] (fun kv iv wr => ∃ (j kk ln : Nat), j ≤ ps.length ∧ iv = .int .i64 j ∧ kv = .int .i64 kk ∧ kk < L.length ∧ ln ≤ 40 ∧ links ≤ ln ∧ FB 57 wr b (.slice (some ⟨g, 0, none⟩) L.length cap) ln ∧ w.grownBy wr (some b) ∧ StrRow w1.heap.size wr (.slice (some ⟨g1, 0, none⟩) ps.length cap1) ps ∧ goD L (fun k t l => findD L F k t true l) true (ps.drop j) kk ln = goD L (fun k t l => findD L F k t true l) true ps 0 links)
      (fun _ iv _ => ps.length - (intOf iv).toNat)
    case atStart => exact ⟨0, 0, links, Nat.zero_le _, rfl, rfl, by omega, hl, Nat.le_refl _, hfb1, hg1, hrow1, rfl⟩
    case round =>
      obtain ⟨j, kk, ln, hj, rfl, rfl, hkk, hln, hln2, hfbr, hgr, hrowr, hG⟩ := hrel
      obtain ⟨n, hn⟩ : ∃ n, L[kk]? = some n := ⟨_, List.getElem?_eq_getElem hkk⟩
      have hnrow := (unhide HROW).grown hgr hC
      obtain ⟨kvn, ⟨a0, a1, a2, a3, a4, a5, a6x⟩, _⟩ := hnrow.at_ hn
      have c0 := hfbr.c0
      have HER := hide ((unhide HERR).grown hgr (by omega))
      have HG := hide hG
      have HFR := hide hfbr
      have HGR := hide hgr
      have HRR := hide hrowr
      have HNR := hide hnrow
      have HD := hide (isDirC_any n wr)
      clear hG hfbr hgr hrowr hnrow hfb1 hg1 hrow1
      by_cases hlt : j < ps.length
      · obtain ⟨p, hp⟩ : ∃ p, ps[j]? = some p := ⟨_, List.getElem?_eq_getElem hlt⟩
        have cp := (unhide HRR).at_ hp
        by_cases hjl : j < ps.length - 1
        · have hjd : (j : Int) < (ps.length : Int) - 1 := by omega
          cases hdn : dirD n
          · have HS : Hid (findD L (F + 1) k s false links = (0, 7, ln)) := by unfold Hid; rw [HFD.out, ← HG.out, go_dir hp hn hdn]; rfl
            clear hp
            go_wp2_with fail
            refine (cstep_no T a6 a7 a9 L _ C b h6 hC (by omega) kk n p true ln wr hn hdn (unhide HNR) (unhide HFR) (unhide HER)).mono ?_
            rintro e w3 ⟨rfl, hfb3, hg3⟩
            rw [errV7]
            have HF3 := hide hfb3
            have HG3 := hide ((unhide HGR).trans hg3)
            clear hfb3 hg3
            go_wp2
            go_ret2
            exact c_mk (x := 0) (y := 7) HS.out (by omega) (unhide HF3) (unhide HG3)
          · have HC := hide (go_cons (thr := (fun k t l => findD L F k t true l)) (last := true) (links := ln) hp hn hdn)
            clear hp
            simp only [Bool.true_or] at HC
            go_wp2_with fail
            refine (cstep_any T a6 a7 a9 L _ C b F h6 hC (unhide HWF) (unhide HIH) kk n p true ln wr hn hdn hln (by omega) (unhide HNR) (unhide HFR) (unhide HER)).mono ?_
            rintro e w3 ⟨rfl, hfb3, hg3⟩
            have hok := step_ok (unhide HWF) (fun k t l hk hl => find_ok (unhide HWF) F k t true l hk hl) hn p true hln
            obtain ⟨r, hr⟩ : ∃ r, r = stepD L (fun k t l => findD L F k t true l) kk n p true ln := ⟨_, rfl⟩
            rw [← hr] at HC hfb3 hok ⊢
            obtain ⟨rn, re, rl⟩ := r
            dsimp only at HC hfb3 hok ⊢
            clear hr
            by_cases hre : re = 0
            · subst hre
              have HG2 : Hid (goD L (fun k t l => findD L F k t true l) true (ps.drop (j + 1)) rn rl = goD L (fun k t l => findD L F k t true l) true ps 0 links) := by
                unfold Hid
                rw [← HG.out]
                exact (HC.out).symm
              have HR3 := hide ((unhide HRR).grown hg3 hgb1)
              have HF3 := hide hfb3
              have HG3 := hide ((unhide HGR).trans hg3)
              have hok1 : rn < L.length := hok.1
              have hok2 : rl ≤ 40 := hok.2.1
              have hok3 : ln ≤ rl := hok.2.2
              clear hfb3 hg3 hok HC
              rw [errV0]
              go_wp2
              go_roundw
              case rel => exact ⟨j + 1, rn, rl, by omega, by go_num, rfl, hok1, hok2, by omega, unhide HF3, unhide HG3, unhide HR3, HG2.out⟩
              case measure => simp [intOf]; omega
            · have HS : Hid (findD L (F + 1) k s false links = (0, re, rl)) := by
                unfold Hid
                have e2 := HC.out
                rw [if_neg hre] at e2
                rw [HFD.out, ← HG.out, e2]
                unfold endD
                rw [if_neg hre]
              have HF3 := hide hfb3
              have HG3 := hide ((unhide HGR).trans hg3)
              obtain ⟨ax, hax⟩ : ∃ ax, errV T a6 a7 a9 re = .iface T (.pointer (some ax)) := ⟨_, by unfold errV; rw [if_neg hre]⟩
              have HAX := hide hax
              clear hfb3 hg3 hok HC
              rw [hax]
              clear hax
              go_wp2
              go_ret2
              refine c_mk2 HS.out HAX.out (unhide HF3) (unhide HG3)
        · have hjd : ¬ (j : Int) < (ps.length : Int) - 1 := by omega
          have hjd2 : decide ((j : Int) < (ps.length : Int) - 1) = false := decide_eq_false hjd
          cases hdn : dirD n
          · have HS : Hid (findD L (F + 1) k s false links = (0, 7, ln)) := by unfold Hid; rw [HFD.out, ← HG.out, go_dir hp hn hdn]; rfl
            clear hp
            go_wp2_with fail
            refine (cstep_no T a6 a7 a9 L _ C b h6 hC (by omega) kk n p true ln wr hn hdn (unhide HNR) (unhide HFR) (unhide HER)).mono ?_
            rintro e w3 ⟨rfl, hfb3, hg3⟩
            rw [errV7]
            have HF3 := hide hfb3
            have HG3 := hide ((unhide HGR).trans hg3)
            clear hfb3 hg3
            go_wp2
            go_ret2
            exact c_mk (x := 0) (y := 7) HS.out (by omega) (unhide HF3) (unhide HG3)
          · have HC := hide (go_cons (thr := (fun k t l => findD L F k t true l)) (last := true) (links := ln) hp hn hdn)
            clear hp
            simp only [Bool.true_or] at HC
            go_wp2_with fail
            refine (cstep_any T a6 a7 a9 L _ C b F h6 hC (unhide HWF) (unhide HIH) kk n p true ln wr hn hdn hln (by omega) (unhide HNR) (unhide HFR) (unhide HER)).mono ?_
            rintro e w3 ⟨rfl, hfb3, hg3⟩
            have hok := step_ok (unhide HWF) (fun k t l hk hl => find_ok (unhide HWF) F k t true l hk hl) hn p true hln
            obtain ⟨r, hr⟩ : ∃ r, r = stepD L (fun k t l => findD L F k t true l) kk n p true ln := ⟨_, rfl⟩
            rw [← hr] at HC hfb3 hok ⊢
            obtain ⟨rn, re, rl⟩ := r
            dsimp only at HC hfb3 hok ⊢
            clear hr
            by_cases hre : re = 0
            · subst hre
              have HG2 : Hid (goD L (fun k t l => findD L F k t true l) true (ps.drop (j + 1)) rn rl = goD L (fun k t l => findD L F k t true l) true ps 0 links) := by
                unfold Hid
                rw [← HG.out]
                exact (HC.out).symm
              have HR3 := hide ((unhide HRR).grown hg3 hgb1)
              have HF3 := hide hfb3
              have HG3 := hide ((unhide HGR).trans hg3)
              have hok1 : rn < L.length := hok.1
              have hok2 : rl ≤ 40 := hok.2.1
              have hok3 : ln ≤ rl := hok.2.2
              clear hfb3 hg3 hok HC
              rw [errV0]
              go_wp2
              go_roundw
              case rel => exact ⟨j + 1, rn, rl, by omega, by go_num, rfl, hok1, hok2, by omega, unhide HF3, unhide HG3, unhide HR3, HG2.out⟩
              case measure => simp [intOf]; omega
            · have HS : Hid (findD L (F + 1) k s false links = (0, re, rl)) := by
                unfold Hid
                have e2 := HC.out
                rw [if_neg hre] at e2
                rw [HFD.out, ← HG.out, e2]
                unfold endD
                rw [if_neg hre]
              have HF3 := hide hfb3
              have HG3 := hide ((unhide HGR).trans hg3)
              obtain ⟨ax, hax⟩ : ∃ ax, errV T a6 a7 a9 re = .iface T (.pointer (some ax)) := ⟨_, by unfold errV; rw [if_neg hre]⟩
              have HAX := hide hax
              clear hfb3 hg3 hok HC
              rw [hax]
              clear hax
              go_wp2
              go_ret2
              refine c_mk2 HS.out HAX.out (unhide HF3) (unhide HG3)
      · obtain rfl : j = ps.length := by omega
        cases hdn : dirD n
        · have HS : Hid (findD L (F + 1) k s false links = (0, 7, ln)) := by
            unfold Hid
            rw [HFD.out, ← HG.out, List.drop_length]
            unfold goD endD
            rw [if_pos rfl, hn]
            show (if (true && !dirD n) = true then _ else _) = _
            rw [hdn]; rfl
          have e7 := (unhide HER).2.1
          go_wp2_with fail
          refine (unhide HD).mono ?_
          rintro e ww ⟨rfl, rfl⟩
          rw [hdn]
          go_wp2
          go_quiet (fail)
          go_wp2
          go_ret2
          exact c_mk (x := 0) (y := 7) HS.out (by omega) (show FB 57 (World.drewN _ nq) _ _ _ from unhide HFR) ((unhide HGR).trans (grown_of_below (below_drewN (Below.refl _ _) nq)))
        · have HS : Hid (findD L (F + 1) k s false links = (kk, 0, ln)) := by
            unfold Hid
            rw [HFD.out, ← HG.out, List.drop_length]
            unfold goD endD
            rw [if_pos rfl, hn]
            show (if (true && !dirD n) = true then _ else _) = _
            rw [hdn]; rfl
          go_wp2_with fail
          refine (unhide HD).mono ?_
          rintro e ww ⟨rfl, rfl⟩
          rw [hdn]
          go_wp2
          go_ret2
          exact c_mk (y := 0) HS.out (by omega) (unhide HFR) (unhide HGR)

set_option maxRecDepth 100000 in
set_option maxHeartbeats 4000000 in
theorem cfind_ffs (T : Nat) (a6 a7 a9 : Addr) (L : List NodeD) (v : Value) (C b F : Nat) (h6 : 6 < C) (hC : C ≤ b) (hwf : WF L) (IH : CFindOK T a6 a7 a9 L v C b F) (k : Nat) (s : ByteArray) (links : Nat) (w : World) (hk : k < L.length) (hs : s.size ≤ 1073741824) (hl : links ≤ 40) (hF : 41 ≤ F + 1 + links) (hrow : NodeRow C w v L) (hfb : FB 57 w b v links) (herr : Errs T a6 a7 a9 w)
    (h1 : 1 ≤ s.size) (hes : endsSlash s = false) (hc : (s[0].toNat : Int) = 47) :
    Calls Tryd.prog 27 #[.pointer (some ⟨b, 0, none⟩), .int .i64 (k : Int), .string s, .bool false] w (CPost T a6 a7 a9 v b (findD L (F + 1) k s false links) w) := by
  have he := emp_no h1
  have hlen := hwf.len
  have hpl := partsS_length s
  have HFD : Hid (findD L (F + 1) k s false links = endD L false (goD L (fun k t l => findD L F k t true l) false (partsS s) 0 links)) := by
    unfold Hid
    conv => lhs; unfold findD
    rw [he, hes, start_yes h1 hc k]
    rfl
  obtain ⟨g, cap, rfl, hg, hcap, hx⟩ : ∃ g cap, v = .slice (some ⟨g, 0, none⟩) L.length cap ∧ g < C ∧ L.length ≤ cap ∧ ∀ (i : Nat) (n : NodeD), L[i]? = some n → ∃ kv, NodeAt w g i n kv ∧ IntRow C w kv n.kids := by
    rcases hrow with ⟨_, rfl⟩ | h
    · simp at hk
    · exact h
  have HROW := hide hrow
  have HFB := hide hfb
  have HIH := hide IH
  have HWF := hide hwf
  have HERR := hide herr
  have hbl := hfb.lt
  have cc0 := hfb.c0
  have HP := hide (parts_any s w (by omega))
  have HSU := hide (suffix_any s w h1 (by omega))
  have HN := hide (hasNode_yes (some ⟨g, 0, none⟩) L.length cap (k : Int) w (by omega) (by omega))
  have hcb : ((s[0].toNat : Int) == 47) = true := by rw [beq_iff_eq]; exact hc
  have HES := hide hes
  clear hrow hfb IH hwf hx hc hes herr
  go_enter Tryd.func27, Tryd.ntmps27
  go_wp2_with fail
  refine (unhide HN).mono ?_
  rintro e ww ⟨rfl, hww⟩
  rw [hww]
  clear hww
  go_wp2_with fail
  refine (unhide HSU).mono ?_
  rintro e ww2 ⟨rfl, hww⟩
  rw [hww, HES.out]
  clear hww
  go_wp2_with fail
  refine (unhide HP).mono ?_
  rintro e w1 ⟨v1, rfl, hown1, hb1⟩
  have hfb1 := (unhide HFB).below hb1 hbl
  have hg1 := grown_of_below (b := b) hb1
  obtain ⟨ps, hps⟩ : ∃ ps, ps = partsS s := ⟨_, rfl⟩
  rw [← hps] at hpl HFD hown1
  have hrow1 := StrRow.of_owns hown1
  clear hps
  by_cases hne : ps = []
  · obtain ⟨n, hn⟩ : ∃ n, L[0]? = some n := ⟨_, List.getElem?_eq_getElem (by omega)⟩
    have hnrow := (unhide HROW).grown hg1 hC
    obtain ⟨kvn, ⟨a0, a1, a2, a3, a4, a5, a6x⟩, _⟩ := hnrow.at_ hn
    have c0 := hfb1.c0
    have HER := hide ((unhide HERR).grown hg1 (by omega))
    have HFR := hide hfb1
    have HGR := hide hg1
    have HD := hide (isDirC_any n w1)
    subst hne
    obtain ⟨aa, cc, rfl⟩ := hrow1.nil
    clear hown1 hrow1 hfb1 hg1 hnrow HP
    go_wp2
    refine wp_loop_rounds 1 ?_
    rw [rounds_succ]
    have HS : Hid (findD L (F + 1) k s false links = (0, 0, links)) := by
      unfold Hid
      rw [HFD.out]
      unfold goD endD
      rw [if_pos rfl, hn]
      rfl
    go_wp2
    go_ret2
    exact c_mk (y := 0) HS.out (by omega) (unhide HFR) (unhide HGR)
  · obtain ⟨g1, cap1, rfl, hg1l, hcap1, hx1⟩ := hrow1.more hne
    have hg1b := (hown1.lt g1 rfl).1
    have hgb1 : g1 ≠ b := by omega
    clear hown1 hx1 HP hne
    go_wp2
    go_loopw [10, 40] (fun kv iv wr => ∃ (j kk ln : Nat), j ≤ ps.length ∧ iv = .int .i64 j ∧ kv = .int .i64 kk ∧ kk < L.length ∧ ln ≤ 40 ∧ links ≤ ln ∧ FB 57 wr b (.slice (some ⟨g, 0, none⟩) L.length cap) ln ∧ w.grownBy wr (some b) ∧ StrRow w1.heap.size wr (.slice (some ⟨g1, 0, none⟩) ps.length cap1) ps ∧ goD L (fun k t l => findD L F k t true l) false (ps.drop j) kk ln = goD L (fun k t l => findD L F k t true l) false ps 0 links)
      (fun _ iv _ => ps.length - (intOf iv).toNat)
    case atStart => exact ⟨0, 0, links, Nat.zero_le _, rfl, rfl, by omega, hl, Nat.le_refl _, hfb1, hg1, hrow1, rfl⟩
    case round =>
      obtain ⟨j, kk, ln, hj, rfl, rfl, hkk, hln, hln2, hfbr, hgr, hrowr, hG⟩ := hrel
      obtain ⟨n, hn⟩ : ∃ n, L[kk]? = some n := ⟨_, List.getElem?_eq_getElem hkk⟩
      have hnrow := (unhide HROW).grown hgr hC
      obtain ⟨kvn, ⟨a0, a1, a2, a3, a4, a5, a6x⟩, _⟩ := hnrow.at_ hn
      have c0 := hfbr.c0
      have HER := hide ((unhide HERR).grown hgr (by omega))
      have HG := hide hG
      have HFR := hide hfbr
      have HGR := hide hgr
      have HRR := hide hrowr
      have HNR := hide hnrow
      have HD := hide (isDirC_any n wr)
      clear hG hfbr hgr hrowr hnrow hfb1 hg1 hrow1
      by_cases hlt : j < ps.length
      · obtain ⟨p, hp⟩ : ∃ p, ps[j]? = some p := ⟨_, List.getElem?_eq_getElem hlt⟩
        have cp := (unhide HRR).at_ hp
        by_cases hjl : j < ps.length - 1
        · have hjd : (j : Int) < (ps.length : Int) - 1 := by omega
          cases hdn : dirD n
          · have HS : Hid (findD L (F + 1) k s false links = (0, 7, ln)) := by unfold Hid; rw [HFD.out, ← HG.out, go_dir hp hn hdn]; rfl
            clear hp
            go_wp2_with fail
            refine (cstep_no T a6 a7 a9 L _ C b h6 hC (by omega) kk n p true ln wr hn hdn (unhide HNR) (unhide HFR) (unhide HER)).mono ?_
            rintro e w3 ⟨rfl, hfb3, hg3⟩
            rw [errV7]
            have HF3 := hide hfb3
            have HG3 := hide ((unhide HGR).trans hg3)
            clear hfb3 hg3
            go_wp2
            go_ret2
            exact c_mk (x := 0) (y := 7) HS.out (by omega) (unhide HF3) (unhide HG3)
          · have HC := hide (go_cons (thr := (fun k t l => findD L F k t true l)) (last := false) (links := ln) hp hn hdn)
            clear hp
            simp only [Bool.false_or, hjl, decide_true] at HC
            go_wp2_with fail
            refine (cstep_any T a6 a7 a9 L _ C b F h6 hC (unhide HWF) (unhide HIH) kk n p true ln wr hn hdn hln (by omega) (unhide HNR) (unhide HFR) (unhide HER)).mono ?_
            rintro e w3 ⟨rfl, hfb3, hg3⟩
            have hok := step_ok (unhide HWF) (fun k t l hk hl => find_ok (unhide HWF) F k t true l hk hl) hn p true hln
            obtain ⟨r, hr⟩ : ∃ r, r = stepD L (fun k t l => findD L F k t true l) kk n p true ln := ⟨_, rfl⟩
            rw [← hr] at HC hfb3 hok ⊢
            obtain ⟨rn, re, rl⟩ := r
            dsimp only at HC hfb3 hok ⊢
            clear hr
            by_cases hre : re = 0
            · subst hre
              have HG2 : Hid (goD L (fun k t l => findD L F k t true l) false (ps.drop (j + 1)) rn rl = goD L (fun k t l => findD L F k t true l) false ps 0 links) := by
                unfold Hid
                rw [← HG.out]
                exact (HC.out).symm
              have HR3 := hide ((unhide HRR).grown hg3 hgb1)
              have HF3 := hide hfb3
              have HG3 := hide ((unhide HGR).trans hg3)
              have hok1 : rn < L.length := hok.1
              have hok2 : rl ≤ 40 := hok.2.1
              have hok3 : ln ≤ rl := hok.2.2
              clear hfb3 hg3 hok HC
              rw [errV0]
              go_wp2
              go_roundw
              case rel => exact ⟨j + 1, rn, rl, by omega, by go_num, rfl, hok1, hok2, by omega, unhide HF3, unhide HG3, unhide HR3, HG2.out⟩
              case measure => simp [intOf]; omega
            · have HS : Hid (findD L (F + 1) k s false links = (0, re, rl)) := by
                unfold Hid
                have e2 := HC.out
                rw [if_neg hre] at e2
                rw [HFD.out, ← HG.out, e2]
                unfold endD
                rw [if_neg hre]
              have HF3 := hide hfb3
              have HG3 := hide ((unhide HGR).trans hg3)
              obtain ⟨ax, hax⟩ : ∃ ax, errV T a6 a7 a9 re = .iface T (.pointer (some ax)) := ⟨_, by unfold errV; rw [if_neg hre]⟩
              have HAX := hide hax
              clear hfb3 hg3 hok HC
              rw [hax]
              clear hax
              go_wp2
              go_ret2
              refine c_mk2 HS.out HAX.out (unhide HF3) (unhide HG3)
        · have hjd : ¬ (j : Int) < (ps.length : Int) - 1 := by omega
          have hjd2 : decide ((j : Int) < (ps.length : Int) - 1) = false := decide_eq_false hjd
          cases hdn : dirD n
          · have HS : Hid (findD L (F + 1) k s false links = (0, 7, ln)) := by unfold Hid; rw [HFD.out, ← HG.out, go_dir hp hn hdn]; rfl
            clear hp
            go_wp2_with fail
            refine (cstep_no T a6 a7 a9 L _ C b h6 hC (by omega) kk n p false ln wr hn hdn (unhide HNR) (unhide HFR) (unhide HER)).mono ?_
            rintro e w3 ⟨rfl, hfb3, hg3⟩
            rw [errV7]
            have HF3 := hide hfb3
            have HG3 := hide ((unhide HGR).trans hg3)
            clear hfb3 hg3
            go_wp2
            go_ret2
            exact c_mk (x := 0) (y := 7) HS.out (by omega) (unhide HF3) (unhide HG3)
          · have HC := hide (go_cons (thr := (fun k t l => findD L F k t true l)) (last := false) (links := ln) hp hn hdn)
            clear hp
            simp only [Bool.false_or, hjl, decide_false] at HC
            go_wp2_with fail
            refine (cstep_any T a6 a7 a9 L _ C b F h6 hC (unhide HWF) (unhide HIH) kk n p false ln wr hn hdn hln (by omega) (unhide HNR) (unhide HFR) (unhide HER)).mono ?_
            rintro e w3 ⟨rfl, hfb3, hg3⟩
            have hok := step_ok (unhide HWF) (fun k t l hk hl => find_ok (unhide HWF) F k t true l hk hl) hn p false hln
            obtain ⟨r, hr⟩ : ∃ r, r = stepD L (fun k t l => findD L F k t true l) kk n p false ln := ⟨_, rfl⟩
            rw [← hr] at HC hfb3 hok ⊢
            obtain ⟨rn, re, rl⟩ := r
            dsimp only at HC hfb3 hok ⊢
            clear hr
            by_cases hre : re = 0
            · subst hre
              have HG2 : Hid (goD L (fun k t l => findD L F k t true l) false (ps.drop (j + 1)) rn rl = goD L (fun k t l => findD L F k t true l) false ps 0 links) := by
                unfold Hid
                rw [← HG.out]
                exact (HC.out).symm
              have HR3 := hide ((unhide HRR).grown hg3 hgb1)
              have HF3 := hide hfb3
              have HG3 := hide ((unhide HGR).trans hg3)
              have hok1 : rn < L.length := hok.1
              have hok2 : rl ≤ 40 := hok.2.1
              have hok3 : ln ≤ rl := hok.2.2
              clear hfb3 hg3 hok HC
              rw [errV0]
              go_wp2
              go_roundw
              case rel => exact ⟨j + 1, rn, rl, by omega, by go_num, rfl, hok1, hok2, by omega, unhide HF3, unhide HG3, unhide HR3, HG2.out⟩
              case measure => simp [intOf]; omega
            · have HS : Hid (findD L (F + 1) k s false links = (0, re, rl)) := by
                unfold Hid
                have e2 := HC.out
                rw [if_neg hre] at e2
                rw [HFD.out, ← HG.out, e2]
                unfold endD
                rw [if_neg hre]
              have HF3 := hide hfb3
              have HG3 := hide ((unhide HGR).trans hg3)
              obtain ⟨ax, hax⟩ : ∃ ax, errV T a6 a7 a9 re = .iface T (.pointer (some ax)) := ⟨_, by unfold errV; rw [if_neg hre]⟩
              have HAX := hide hax
              clear hfb3 hg3 hok HC
              rw [hax]
              clear hax
              go_wp2
              go_ret2
              refine c_mk2 HS.out HAX.out (unhide HF3) (unhide HG3)
      · obtain rfl : j = ps.length := by omega
        have HS : Hid (findD L (F + 1) k s false links = (kk, 0, ln)) := by
          unfold Hid
          rw [HFD.out, ← HG.out, List.drop_length]
          unfold goD endD
          rw [if_pos rfl, hn]
          rfl
        go_wp2
        go_ret2
        exact c_mk (y := 0) HS.out (by omega) (unhide HFR) (unhide HGR)
end Go.Proofs.YtehbjabneocflaaDoor
