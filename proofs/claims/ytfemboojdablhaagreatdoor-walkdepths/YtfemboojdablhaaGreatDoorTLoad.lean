/- The reference's Load, the whole of it. -/
import Derived.Test.YtfemboojdablhaaGreatDoorTGLine
namespace Go.Proofs.YtfemboojdablhaaGreatDoor.Tre
open Go.RowKit

theorem goL_last (y : ByteArray) (pl : Int) (L : List NodeD) (K : List ByteArray) : goL [y] pl L K = if y.size = 0 then (L, 0, 0) else ([], 2, pl) := rfl
theorem goL_form {y : ByteArray} {ys : List ByteArray} (pl : Int) (L : List NodeD) (K : List ByteArray) (h : ys ≠ []) (hl : lineD y = none) : goL (y :: ys) pl L K = ([], 2, pl) := by
  cases ys with
  | nil => exact absurd rfl h
  | cons z zs => unfold goL; rw [hl]; rfl
theorem goL_many {y : ByteArray} {ys : List ByteArray} (pl : Int) {L : List NodeD} (K : List ByteArray) {ln : LineD} (h : ys ≠ []) (hl : lineD y = some ln) (hm : 200 < L.length) : goL (y :: ys) pl L K = ([], 4, pl) := by
  cases ys with
  | nil => exact absurd rfl h
  | cons z zs => unfold goL; rw [hl]; show (if 200 < L.length then _ else _) = _; rw [if_pos hm]
theorem goL_no {y : ByteArray} {ys : List ByteArray} (pl : Int) {L : List NodeD} {K : List ByteArray} {ln : LineD} {e : Int} (h : ys ≠ []) (hl : lineD y = some ln) (hm : ¬ 200 < L.length) (hp : putD L K ln = .no e) : goL (y :: ys) pl L K = ([], e, pl) := by
  cases ys with
  | nil => exact absurd rfl h
  | cons z zs => unfold goL; rw [hl]; show (if 200 < L.length then _ else _) = _; rw [if_neg hm]; show (match putD L K ln with | .no e => _ | .yes L' K' => _) = _; rw [hp]
theorem goL_yes {y : ByteArray} {ys : List ByteArray} (pl : Int) {L L' : List NodeD} {K K' : List ByteArray} {ln : LineD} (h : ys ≠ []) (hl : lineD y = some ln) (hm : ¬ 200 < L.length) (hp : putD L K ln = .yes L' K') : goL (y :: ys) pl L K = goL ys (pl + (y.size : Int) + 1) L' K' := by
  cases ys with
  | nil => exact absurd rfl h
  | cons z zs => conv => lhs; unfold goL
                 rw [hl]; show (if 200 < L.length then _ else _) = _; rw [if_neg hm]; show (match putD L K ln with | .no e => _ | .yes L' K' => _) = _; rw [hp]
theorem srt_nil : Srt [] [] := ⟨rfl, fun i n h => by simp at h⟩
theorem loadD_small {s : ByteArray} (h : ¬ 20000 < s.size) : loadD s = goL (cutS 10 s) 0 [rootD] [bs []] := by unfold loadD; rw [if_neg h]
theorem loadD_big {s : ByteArray} (h : 20000 < s.size) : loadD s = ([], 1, 0) := by unfold loadD; rw [if_pos h]
theorem put_no_ne {L : List NodeD} {K : List ByteArray} {ln : LineD} {e : Int} (h : putD L K ln = .no e) : e ≠ 0 := by
  unfold putD at h
  cases e1 : look K (upS ln.way) with
  | none => rw [e1] at h; cases h; decide
  | some a =>
    rw [e1] at h
    have h2 : (match L[a]? with | none => PutD.no 6 | some d => if dirD d = false then PutD.no 7 else if (look K ln.way).isSome = true then PutD.no 8 else PutD.yes (addD L a d (newD a ln.fld (lastS ln.way)) (d.kids ++ [L.length])) (K ++ [ln.way])) = .no e := h
    cases e2 : L[a]? with
    | none => rw [e2] at h2; cases h2; decide
    | some d =>
      rw [e2] at h2
      have h3 : (if dirD d = false then PutD.no 7 else if (look K ln.way).isSome = true then PutD.no 8 else PutD.yes (addD L a d (newD a ln.fld (lastS ln.way)) (d.kids ++ [L.length])) (K ++ [ln.way])) = .no e := h2
      by_cases h4 : dirD d = false
      · rw [if_pos h4] at h3; cases h3; decide
      · rw [if_neg h4] at h3
        by_cases h5 : (look K ln.way).isSome = true
        · rw [if_pos h5] at h3; cases h3; decide
        · rw [if_neg h5] at h3; cases h3
theorem owned_nil (t B : Nat) (W : World) : Owned t B W (.slice none 0 0) [] := ⟨World.ownsRow_nil _ _ _ _, fun p hp => by cases hp⟩
theorem owned_root (w : World) : Owned 42 w.heap.size (w.alloc (.cells #[.int .u8 100, .string ⟨#[]⟩, .int .i64 (-1), .int .i64 0, .int .i64 0, .string ⟨#[]⟩, .slice none 0 0] 42)) (.slice (some ⟨w.heap.size, 0, none⟩) 1 1) [(rootD, .slice none 0 0)] := by
  refine ⟨⟨rfl, .inr ⟨w.heap.size, 1, _, rfl, Nat.le_refl _, World.alloc_heap_new w _, Nat.le_refl _, by unfold maxLen; omega, rfl, rfl⟩⟩, fun p hp => ?_⟩
  simp at hp
  subst hp
  exact World.ownsRow_nil _ _ _ _
theorem row9_keep {B n : Nat} {w w' : World} {v : Value} {xs : List Value} (h : w.ownsRow B 9 1 v n xs) (hk : Keeps9 w w') : w'.ownsRow B 9 1 v n xs := by
  refine ⟨h.1, ?_⟩
  rcases h.2 with h2 | ⟨g, cap, cur, e, hb, hg, r⟩
  · exact .inl h2
  · exact .inr ⟨g, cap, cur, e, hb, hk g cur hg, r⟩

theorem row_str {B n m cap g : Nat} {W : World} {xs : List ByteArray} (h : W.ownsRow B 9 1 (.slice (some ⟨g, 0, none⟩) m cap) n (xs.map Value.string)) {j : Nat} {x : ByteArray} (hj : xs[j]? = some x) : W.cell? ⟨g, j, none⟩ = some (.string x) := by
  rcases h.2 with ⟨e, _⟩ | ⟨g', cap', cur, e, _, hg, hn, _, hs, ht⟩
  · cases e
  · cases e
    have hj' : j < xs.length := (List.getElem?_eq_some_iff.1 hj).1
    have hl := h.1
    rw [List.length_map] at hl
    have e1 : (cur.toList.take (n * 1))[j]? = some (.string x) := by rw [ht, List.getElem?_map, hj]; rfl
    rw [List.getElem?_take_of_lt (by omega)] at e1
    simp only [World.cell?, hg]
    simpa using e1
def LoadPost (r : Res) (w : World) (e : Ending) (w' : World) : Prop :=
  ∃ (v : Value) (lk : List (NodeD × Value)), e = .returned (.tuple #[v, .int .i64 r.2.1, .int .i64 r.2.2]) ∧ Owned 42 w.heap.size w' v lk ∧ Srt r.1 (lk.map (·.1)) ∧ Below w.heap.size w w'
theorem load_no {r : Res} {w w' : World} {er pl : Int} (hr : r = ([], er, pl)) (hb : Below w.heap.size w w') : LoadPost r w (.returned (.tuple #[.slice none 0 0, .int .i64 er, .int .i64 pl])) w' := by
  subst hr; exact ⟨_, [], rfl, owned_nil _ _ _, srt_nil, hb⟩

set_option maxRecDepth 100000 in
set_option maxHeartbeats 2000000 in
theorem refload_any (s : ByteArray) (w : World) (hs : s.size ≤ maxLen) :
    Calls Tryz.prog 7 #[.string s] w (LoadPost (loadD s) w) := by
  unfold maxLen at hs
  by_cases hbig : 20000 < s.size
  · have hb' : (20000 : Int) < (s.size : Int) := by omega
    rw [loadD_big hbig]
    go_enter Tryz.func7, Tryz.ntmps7
    go_wp2
    go_ret3
    exact load_no rfl (Below.refl _ _)
  · have hb' : ¬ (20000 : Int) < (s.size : Int) := by omega
    have hl10 := cutS_length 10 s
    generalize hr : loadD s = r
    rw [loadD_small hbig] at hr
    have HR0 := hide hr
    clear hr
    go_enter Tryz.func7, Tryz.ntmps7
    go_wp2_with fail
    have hown0 := owned_root w
    have hbl0 : Below w.heap.size w (w.alloc (.cells #[.int .u8 100, .string ⟨#[]⟩, .int .i64 (-1), .int .i64 0, .int .i64 0, .string ⟨#[]⟩, .slice none 0 0] 42)) := (Below.refl _ _).alloc (Nat.le_refl _) _
    refine (cut_any 10 s _ (by omega)).mono ?_
    rintro e w1 ⟨v1, rfl, hown1, hb1⟩
    have hown0' := hown0.below hb1
    have hB1 : Below w.heap.size w w1 := hbl0.trans (hb1.mono (by simp))
    obtain ⟨g1, cap1, rfl, hg1, hcap1, hx1⟩ := (StrRow.of_owns hown1).more (cutS_ne' 10 s)
    obtain ⟨cs, hcs⟩ : ∃ cs, cs = cutS 10 s := ⟨_, rfl⟩
    have hp10 : ∀ x ∈ cs, x.size ≤ s.size := by rw [hcs]; exact cutS_le 10 s
    have hcl : 1 ≤ cs.length := by
      rw [hcs]
      cases e : cutS 10 s with
      | nil => exact absurd e (cutS_ne' 10 s)
      | cons a b => simp
    have HR : Hid (goL cs 0 [rootD] [bs []] = r) := by unfold Hid; rw [hcs]; exact HR0.out
    rw [← hcs] at hl10 hown1 hcap1 ⊢
    have HP := hide hp10
    have HO1 := hide hown1
    have HO0 := hide hown0'
    clear hown0 hbl0 hb1 hx1 hcs hp10 hown1 hown0' HR0
    go_wp2
    go_loopw [5, 7, 8] (fun lv av iv wr => ∃ (i : Nat) (a : Int) (R : List NodeD) (K : List ByteArray) (lk : List (NodeD × Value)), i < cs.length ∧ iv = .int .i64 i ∧ av = .int .i64 a ∧ Owned 42 w.heap.size wr lv lk ∧ Srt R (lk.map (·.1)) ∧ KInv R K ∧ lk.length = i + 1 ∧ i ≤ 200 ∧ (∃ BB, wr.ownsRow BB 9 1 (.slice (some ⟨g1, 0, none⟩) cs.length cap1) cs.length (cs.map Value.string)) ∧ Below w.heap.size w wr ∧ 0 ≤ a ∧ a ≤ (i : Int) * 20001 ∧ goL (cs.drop i) a R K = r)
      (fun _ _ iv _ => cs.length - (intOf iv).toNat)
    case atStart => exact ⟨0, 0, [rootD], [bs []], _, by omega, rfl, rfl, HO0.out, srt_root, kinv_root, rfl, by omega, ⟨_, HO1.out⟩, hB1, Int.le_refl _, by omega, HR.out⟩
    case round =>
      obtain ⟨i, a, R, K, lk, hi, rfl, rfl, hown, hsrt, hkinv, hlk, hi2, ⟨BB, hrow⟩, hBr, ha0, ha1, hgo⟩ := hrel
      obtain ⟨y, hy⟩ : ∃ y, cs[i]? = some y := ⟨_, List.getElem?_eq_getElem hi⟩
      have hy2 := (unhide HP) y (List.mem_of_getElem? hy)
      have hcell : wr.cell? ⟨g1, i, none⟩ = some (.string y) := by
        obtain ⟨g', cap', e, _, _, hx⟩ := (StrRow.of_owns hrow).more (by intro e; rw [e] at hcl; simp at hcl)
        cases e
        exact hx i y hy
      have hdrop : cs.drop i = y :: cs.drop (i + 1) := by
        rw [List.drop_eq_getElem_cons hi]
        congr 1
        exact (List.getElem?_eq_some_iff.1 hy).2
      rw [hdrop] at hgo
      have hRl : R.length = i + 1 := by rw [← hsrt.len, List.length_map]; exact hlk
      have HY := hide hy
      clear hy hdrop
      have HOW := hide hown
      have HSR := hide hsrt
      have HKI := hide hkinv
      have HROW := hide hrow
      have HGO := hide hgo
      clear hown hsrt hkinv hrow hgo
      by_cases hlast : i = cs.length - 1
      · have hlb : ((i : Int) == (cs.length : Int) - 1) = true := by rw [beq_iff_eq]; omega
        have hgl : goL [y] a R K = r := by
          have h := HGO.out
          rw [List.drop_of_length_le (by omega)] at h
          exact h
        rw [goL_last] at hgl
        clear hlast
        cases hE : y.toList.isEmpty
        · rw [if_neg (by have := emp_size_no hE; omega)] at hgl
          have HG := hide hgl
          clear hgl
          go_wp2
          go_ret3
          exact load_no HG.out.symm hBr
        · rw [if_pos (emp_size hE)] at hgl
          have HG := hide hgl
          clear hgl
          go_wp2
          go_ret3
          rw [← HG.out]
          exact ⟨_, lk, rfl, unhide HOW, unhide HSR, hBr⟩
      · have hlb : ((i : Int) == (cs.length : Int) - 1) = false := by rw [beq_eq_false_iff_ne]; omega
        have HNE : Hid (cs.drop (i + 1) ≠ []) := by
          intro e
          have := congrArg List.length e
          rw [List.length_drop] at this
          simp at this; omega
        go_wp2_with fail
        refine (line_any y _ (by omega)).mono ?_
        rintro e w2 ⟨nd, nv, ok, rfl, hcase, hb2⟩
        have hBr2 : Below w.heap.size w w2 := hBr.trans (hb2.mono hBr.size)
        rcases hcase with ⟨rfl, ln, hln, hfl, hnm, hok, hnrow⟩ | ⟨rfl, hln⟩
        · obtain ⟨_, hft, hwy⟩ := line_facts hln
          have hcw := cutS_length 47 ln.way
          have hln2 : ln = ⟨(nd.kind, nd.size, nd.time, nd.text), ln.way⟩ := by
            cases ln with
            | mk f wy => cases hfl; rfl
          by_cases h200 : (200 : Int) ≤ (i : Int)
          · have HG := hide (HGO.out.symm.trans (goL_many a K HNE.out hln (by omega)))
            clear hln hfl hnm hok hnrow hln2
            go_wp2
            go_ret3
            exact load_no HG.out (hBr2.alloc hBr2.size _)
          · have HN := hide hnrow
            have HB2 := hide hb2
            have HLN := hide hln
            have HLN2 := hide hln2
            have HNM := hide hnm
            have HOK := hide hok
            have HFT := hide hft
            have hnt : nd.text.size ≤ 20000 := by rw [hfl] at hft; have : nd.text.size ≤ y.size := hft; omega
            clear hnrow hb2 hln hfl hnm hok hln2 hft
            go_wp2_with fail
            obtain ⟨W3, hW3⟩ : ∃ W3, w2.alloc (.cells #[.int .u8 nd.kind, .string nd.name, .int .i64 nd.up, .int .i64 nd.size, .int .i64 nd.time, .string nd.text, .slice none 0 0] 42) = W3 := ⟨_, rfl⟩
            rw [hW3]
            have hbl3 : Below w2.heap.size w2 W3 := by rw [← hW3]; exact (Below.refl _ _).alloc (Nat.le_refl _) _
            have hs3 := hbl3.size
            have hown3 := ((unhide HOW).below (unhide HB2)).below hbl3
            have hk3 : Keeps9 wr W3 := (Keeps9.of_below (unhide HB2)).trans (Keeps9.of_below hbl3)
            have hB3 : Below w.heap.size w W3 := hBr2.trans (hbl3.mono hBr2.size)
            have hbs := hB3.size
            have HPUT := hide (put_any w.heap.size w2.heap.size _ nv lk R K nd ln.way _ _ W3 hbs hs3 hown3 (unhide HSR) (unhide HKI) HOK.out rfl (by omega) HNM.out rfl ((unhide HN).below hbl3) (by omega))
            have HK3 := hide hk3
            have HB3 := hide hB3
            clear hW3 hbl3 hown3 hk3 hB3
            refine (unhide HPUT).mono ?_
            rintro e w4 ⟨v4, er, rfl, hpok, hb4, hk4⟩
            have hB4 : Below w.heap.size w w4 := (unhide HB3).trans hb4
            cases hpd : putD R K ⟨(nd.kind, nd.size, nd.time, nd.text), ln.way⟩ with
            | no x =>
              rw [hpd] at hpok
              have hxe : er = x := hpok
              subst hxe
              have her := put_no_ne hpd
              rw [← HLN2.out] at hpd
              have HG := hide (HGO.out.symm.trans (goL_no a HNE.out HLN.out (by omega) hpd))
              have heb : (er != 0) = true := by rw [bne_iff_ne]; exact her
              clear hpok hk4 hb4 hpd her
              go_wp2
              go_ret3
              exact load_no HG.out hB4
            | yes R' K' =>
              rw [hpd] at hpok
              obtain ⟨rfl, lk', ho4, hsrt4⟩ := hpok
              rw [← HLN2.out] at hpd
              obtain ⟨hki4, hRl4⟩ := put_inv (unhide HKI) HOK.out (by have := HFT.out; omega) (by omega) hpd
              have HG := hide ((goL_yes a HNE.out HLN.out (by omega) hpd).symm.trans HGO.out)
              have hl4 : lk'.length = i + 2 := by
                have := hsrt4.len
                rw [List.length_map] at this; omega
              have hrow4 := row9_keep (unhide HROW) ((unhide HK3).trans hk4)
              have hcell4 : w4.cell? ⟨g1, i, none⟩ = some (.string y) := by
                have h1 := row_str hrow4 (unhide HY)
                exact h1
              have HR4 := hide hrow4
              have HO4 := hide ho4
              have HS4 := hide hsrt4
              have HI4 := hide hki4
              clear hrow4 ho4 hsrt4 hki4 hk4 hb4 hpd
              have hpl : a + ((y.size : Int) + 1) ≤ ((i : Int) + 1) * 20001 := by omega
              go_wp2
              go_roundw
              case rel => exact ⟨i + 1, a + (y.size : Int) + 1, R', K', lk', by omega, by go_num, by go_num, unhide HO4, unhide HS4, unhide HI4, hl4, by omega, ⟨BB, unhide HR4⟩, hB4, by omega, by omega, HG.out⟩
              case measure => simp [intOf]; omega
        · have HG := hide (HGO.out.symm.trans (goL_form a R K HNE.out hln))
          clear hln
          go_wp2
          go_ret3
          exact load_no HG.out (hBr2.alloc hBr2.size _)
end Go.Proofs.YtfemboojdablhaaGreatDoor.Tre
