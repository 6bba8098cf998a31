/- Merged: TLoad, IbA, IbN, IbO, TSame. -/
import Derived.Test.YtfemboojdablhaaGreatDoorMi31
import Derived.Test.YtfemboojdablhaaGreatDoorMi22
import Derived.Test.YtfemboojdablhaaGreatDoorMi27
import Derived.Test.YtfemboojdablhaaGreatDoorMi25
import Derived.Test.YtfemboojdablhaaGreatDoorMi29
namespace Go.Proofs.YtfemboojdablhaaGreatDoor.Tre
open Go.RowKit
theorem goL_last (y : ByteArray) (pl : Int) (L : List NodeD) (K : List ByteArray) : goL [y] pl L K = if y.size = 0 then (L, 0, 0) else ([], 2, pl) := rfl
theorem goL_form {y : ByteArray} {ys : List ByteArray} (pl : Int) (L : List NodeD) (K : List ByteArray) (h : ys ≠ []) (hl : lineD y = none) : goL (y :: ys) pl L K = ([], 2, pl) := by
  cases ys with
  | nil => exact absurd rfl h
  | cons z zs => unfold goL; rw [hl]; rfl
theorem goL_many {y : ByteArray} {ys : List ByteArray} (pl : Int) {L : List NodeD} (K : List ByteArray) {ln : LineD} (h : ys ≠ []) (hl : lineD y = some ln) (hm : 200 < L.length) : goL (y :: ys) pl L K = ([], 4, pl) := by
  cases ys with
  | nil => exact absurd rfl h
  | cons z zs => unfold goL; rw [hl]; show (if 200 < L.length then _ else _) = _; rw [if_pos hm]
theorem goL_no {y : ByteArray} {ys : List ByteArray} (pl : Int) {L : List NodeD} {K : List ByteArray} {ln : LineD} {e : Int} (h : ys ≠ []) (hl : lineD y = some ln) (hm : ¬ 200 < L.length) (hp : putD L K ln = .no e) : goL (y :: ys) pl L K = ([], e, pl) := by
  cases ys with
  | nil => exact absurd rfl h
  | cons z zs => unfold goL; rw [hl]; show (if 200 < L.length then _ else _) = _; rw [if_neg hm]; show (match putD L K ln with | .no e => _ | .yes L' K' => _) = _; rw [hp]
theorem goL_yes {y : ByteArray} {ys : List ByteArray} (pl : Int) {L L' : List NodeD} {K K' : List ByteArray} {ln : LineD} (h : ys ≠ []) (hl : lineD y = some ln) (hm : ¬ 200 < L.length) (hp : putD L K ln = .yes L' K') : goL (y :: ys) pl L K = goL ys (pl + (y.size : Int) + 1) L' K' := by
  cases ys with
  | nil => exact absurd rfl h
  | cons z zs => conv => lhs; unfold goL
                 rw [hl]; show (if 200 < L.length then _ else _) = _; rw [if_neg hm]; show (match putD L K ln with | .no e => _ | .yes L' K' => _) = _; rw [hp]
theorem srt_nil : Srt [] [] := ⟨rfl, fun i n h => by simp at h⟩
theorem loadD_small {s : ByteArray} (h : ¬ 20000 < s.size) : loadD s = goL (cutS 10 s) 0 [rootD] [bs []] := by unfold loadD; rw [if_neg h]
theorem loadD_big {s : ByteArray} (h : 20000 < s.size) : loadD s = ([], 1, 0) := by unfold loadD; rw [if_pos h]
theorem put_no_ne {L : List NodeD} {K : List ByteArray} {ln : LineD} {e : Int} (h : putD L K ln = .no e) : e ≠ 0 := by
  unfold putD at h
  cases e1 : look K (upS ln.way) with
  | none => rw [e1] at h; cases h; decide
  | some a =>
    rw [e1] at h
    have h2 : (match L[a]? with | none => PutD.no 6 | some d => if dirD d = false then PutD.no 7 else if (look K ln.way).isSome = true then PutD.no 8 else PutD.yes (addD L a d (newD a ln.fld (lastS ln.way)) (d.kids ++ [L.length])) (K ++ [ln.way])) = .no e := h
    cases e2 : L[a]? with
    | none => rw [e2] at h2; cases h2; decide
    | some d =>
      rw [e2] at h2
      have h3 : (if dirD d = false then PutD.no 7 else if (look K ln.way).isSome = true then PutD.no 8 else PutD.yes (addD L a d (newD a ln.fld (lastS ln.way)) (d.kids ++ [L.length])) (K ++ [ln.way])) = .no e := h2
      by_cases h4 : dirD d = false
      · rw [if_pos h4] at h3; cases h3; decide
      · rw [if_neg h4] at h3
        by_cases h5 : (look K ln.way).isSome = true
        · rw [if_pos h5] at h3; cases h3; decide
        · rw [if_neg h5] at h3; cases h3
theorem owned_nil (t B : Nat) (W : World) : Owned t B W (.slice none 0 0) [] := ⟨World.ownsRow_nil _ _ _ _, fun p hp => by cases hp⟩
theorem owned_root (w : World) : Owned 42 w.heap.size (w.alloc (.cells #[.int .u8 100, .string ⟨#[]⟩, .int .i64 (-1), .int .i64 0, .int .i64 0, .string ⟨#[]⟩, .slice none 0 0] 42)) (.slice (some ⟨w.heap.size, 0, none⟩) 1 1) [(rootD, .slice none 0 0)] := by
  refine ⟨⟨rfl, .inr ⟨w.heap.size, 1, _, rfl, Nat.le_refl _, World.alloc_heap_new w _, Nat.le_refl _, by unfold maxLen; omega, rfl, rfl⟩⟩, fun p hp => ?_⟩
  simp at hp
  subst hp
  exact World.ownsRow_nil _ _ _ _
theorem row9_keep {B n : Nat} {w w' : World} {v : Value} {xs : List Value} (h : w.ownsRow B 9 1 v n xs) (hk : Keeps9 w w') : w'.ownsRow B 9 1 v n xs := by
  refine ⟨h.1, ?_⟩
  rcases h.2 with h2 | ⟨g, cap, cur, e, hb, hg, r⟩
  · exact .inl h2
  · exact .inr ⟨g, cap, cur, e, hb, hk g cur hg, r⟩
theorem row_str {B n m cap g : Nat} {W : World} {xs : List ByteArray} (h : W.ownsRow B 9 1 (.slice (some ⟨g, 0, none⟩) m cap) n (xs.map Value.string)) {j : Nat} {x : ByteArray} (hj : xs[j]? = some x) : W.cell? ⟨g, j, none⟩ = some (.string x) := by
  rcases h.2 with ⟨e, _⟩ | ⟨g', cap', cur, e, _, hg, hn, _, hs, ht⟩
  · cases e
  · cases e
    have hj' : j < xs.length := (List.getElem?_eq_some_iff.1 hj).1
    have hl := h.1
    rw [List.length_map] at hl
    have e1 : (cur.toList.take (n * 1))[j]? = some (.string x) := by rw [ht, List.getElem?_map, hj]; rfl
    rw [List.getElem?_take_of_lt (by omega)] at e1
    simp only [World.cell?, hg]
    simpa using e1
def LoadPost (r : Res) (w : World) (e : Ending) (w' : World) : Prop :=
  ∃ (v : Value) (lk : List (NodeD × Value)), e = .returned (.tuple #[v, .int .i64 r.2.1, .int .i64 r.2.2]) ∧ Owned 42 w.heap.size w' v lk ∧ Srt r.1 (lk.map (·.1)) ∧ Below w.heap.size w w'
theorem load_no {r : Res} {w w' : World} {er pl : Int} (hr : r = ([], er, pl)) (hb : Below w.heap.size w w') : LoadPost r w (.returned (.tuple #[.slice none 0 0, .int .i64 er, .int .i64 pl])) w' := by
  subst hr; exact ⟨_, [], rfl, owned_nil _ _ _, srt_nil, hb⟩
set_option maxRecDepth 100000 in
set_option maxHeartbeats 2000000 in
theorem refload_any (s : ByteArray) (w : World) (hs : s.size ≤ maxLen) :
    Calls Tryz.prog 7 #[.string s] w (LoadPost (loadD s) w) := by
  unfold maxLen at hs
  by_cases hbig : 20000 < s.size
  · have hb' : (20000 : Int) < (s.size : Int) := by omega
    rw [loadD_big hbig]
    go_enter Tryz.func7, Tryz.ntmps7
    go_wp2
    go_ret3
    exact load_no rfl (Below.refl _ _)
  · have hb' : ¬ (20000 : Int) < (s.size : Int) := by omega
    have hl10 := cutS_length 10 s
    generalize hr : loadD s = r
    rw [loadD_small hbig] at hr
    have HR0 := hide hr
    clear hr
    go_enter Tryz.func7, Tryz.ntmps7
    go_wp2_with fail
    have hown0 := owned_root w
    have hbl0 : Below w.heap.size w (w.alloc (.cells #[.int .u8 100, .string ⟨#[]⟩, .int .i64 (-1), .int .i64 0, .int .i64 0, .string ⟨#[]⟩, .slice none 0 0] 42)) := (Below.refl _ _).alloc (Nat.le_refl _) _
    refine (cut_any 10 s _ (by omega)).mono ?_
    rintro e w1 ⟨v1, rfl, hown1, hb1⟩
    have hown0' := hown0.below hb1
    have hB1 : Below w.heap.size w w1 := hbl0.trans (hb1.mono (by simp))
    obtain ⟨g1, cap1, rfl, hg1, hcap1, hx1⟩ := (StrRow.of_owns hown1).more (cutS_ne' 10 s)
    obtain ⟨cs, hcs⟩ : ∃ cs, cs = cutS 10 s := ⟨_, rfl⟩
    have hp10 : ∀ x ∈ cs, x.size ≤ s.size := by rw [hcs]; exact cutS_le 10 s
    have hcl : 1 ≤ cs.length := by
      rw [hcs]
      cases e : cutS 10 s with
      | nil => exact absurd e (cutS_ne' 10 s)
      | cons a b => simp
    have HR : Hid (goL cs 0 [rootD] [bs []] = r) := by unfold Hid; rw [hcs]; exact HR0.out
    rw [← hcs] at hl10 hown1 hcap1 ⊢
    have HP := hide hp10
    have HO1 := hide hown1
    have HO0 := hide hown0'
    clear hown0 hbl0 hb1 hx1 hcs hp10 hown1 hown0' HR0
    go_wp2
    go_loopw [5, 7, 8] (fun lv av iv wr => ∃ (i : Nat) (a : Int) (R : List NodeD) (K : List ByteArray) (lk : List (NodeD × Value)), i < cs.length ∧ iv = .int .i64 i ∧ av = .int .i64 a ∧ Owned 42 w.heap.size wr lv lk ∧ Srt R (lk.map (·.1)) ∧ KInv R K ∧ lk.length = i + 1 ∧ i ≤ 200 ∧ (∃ BB, wr.ownsRow BB 9 1 (.slice (some ⟨g1, 0, none⟩) cs.length cap1) cs.length (cs.map Value.string)) ∧ Below w.heap.size w wr ∧ 0 ≤ a ∧ a ≤ (i : Int) * 20001 ∧ goL (cs.drop i) a R K = r)
      (fun _ _ iv _ => cs.length - (intOf iv).toNat)
    case atStart => exact ⟨0, 0, [rootD], [bs []], _, by omega, rfl, rfl, HO0.out, srt_root, kinv_root, rfl, by omega, ⟨_, HO1.out⟩, hB1, Int.le_refl _, by omega, HR.out⟩
    case round =>
      obtain ⟨i, a, R, K, lk, hi, rfl, rfl, hown, hsrt, hkinv, hlk, hi2, ⟨BB, hrow⟩, hBr, ha0, ha1, hgo⟩ := hrel
      obtain ⟨y, hy⟩ : ∃ y, cs[i]? = some y := ⟨_, List.getElem?_eq_getElem hi⟩
      have hy2 := (unhide HP) y (List.mem_of_getElem? hy)
      have hcell : wr.cell? ⟨g1, i, none⟩ = some (.string y) := by
        obtain ⟨g', cap', e, _, _, hx⟩ := (StrRow.of_owns hrow).more (by intro e; rw [e] at hcl; simp at hcl)
        cases e
        exact hx i y hy
      have hdrop : cs.drop i = y :: cs.drop (i + 1) := by
        rw [List.drop_eq_getElem_cons hi]
        congr 1
        exact (List.getElem?_eq_some_iff.1 hy).2
      rw [hdrop] at hgo
      have hRl : R.length = i + 1 := by rw [← hsrt.len, List.length_map]; exact hlk
      have HY := hide hy
      clear hy hdrop
      have HOW := hide hown
      have HSR := hide hsrt
      have HKI := hide hkinv
      have HROW := hide hrow
      have HGO := hide hgo
      clear hown hsrt hkinv hrow hgo
      by_cases hlast : i = cs.length - 1
      · have hlb : ((i : Int) == (cs.length : Int) - 1) = true := by rw [beq_iff_eq]; omega
        have hgl : goL [y] a R K = r := by
          have h := HGO.out
          rw [List.drop_of_length_le (by omega)] at h
          exact h
        rw [goL_last] at hgl
        clear hlast
        cases hE : y.toList.isEmpty
        · rw [if_neg (by have := emp_size_no hE; omega)] at hgl
          have HG := hide hgl
          clear hgl
          go_wp2
          go_ret3
          exact load_no HG.out.symm hBr
        · rw [if_pos (emp_size hE)] at hgl
          have HG := hide hgl
          clear hgl
          go_wp2
          go_ret3
          rw [← HG.out]
          exact ⟨_, lk, rfl, unhide HOW, unhide HSR, hBr⟩
      · have hlb : ((i : Int) == (cs.length : Int) - 1) = false := by rw [beq_eq_false_iff_ne]; omega
        have HNE : Hid (cs.drop (i + 1) ≠ []) := by
          intro e
          have := congrArg List.length e
          rw [List.length_drop] at this
          simp at this; omega
        go_wp2_with fail
        refine (line_any y _ (by omega)).mono ?_
        rintro e w2 ⟨nd, nv, ok, rfl, hcase, hb2⟩
        have hBr2 : Below w.heap.size w w2 := hBr.trans (hb2.mono hBr.size)
        rcases hcase with ⟨rfl, ln, hln, hfl, hnm, hok, hnrow⟩ | ⟨rfl, hln⟩
        · obtain ⟨_, hft, hwy⟩ := line_facts hln
          have hcw := cutS_length 47 ln.way
          have hln2 : ln = ⟨(nd.kind, nd.size, nd.time, nd.text), ln.way⟩ := by
            cases ln with
            | mk f wy => cases hfl; rfl
          by_cases h200 : (200 : Int) ≤ (i : Int)
          · have HG := hide (HGO.out.symm.trans (goL_many a K HNE.out hln (by omega)))
            clear hln hfl hnm hok hnrow hln2
            go_wp2
            go_ret3
            exact load_no HG.out (hBr2.alloc hBr2.size _)
          · have HN := hide hnrow
            have HB2 := hide hb2
            have HLN := hide hln
            have HLN2 := hide hln2
            have HNM := hide hnm
            have HOK := hide hok
            have HFT := hide hft
            have hnt : nd.text.size ≤ 20000 := by rw [hfl] at hft; have : nd.text.size ≤ y.size := hft; omega
            clear hnrow hb2 hln hfl hnm hok hln2 hft
            go_wp2_with fail
            obtain ⟨W3, hW3⟩ : ∃ W3, w2.alloc (.cells #[.int .u8 nd.kind, .string nd.name, .int .i64 nd.up, .int .i64 nd.size, .int .i64 nd.time, .string nd.text, .slice none 0 0] 42) = W3 := ⟨_, rfl⟩
            rw [hW3]
            have hbl3 : Below w2.heap.size w2 W3 := by rw [← hW3]; exact (Below.refl _ _).alloc (Nat.le_refl _) _
            have hs3 := hbl3.size
            have hown3 := ((unhide HOW).below (unhide HB2)).below hbl3
            have hk3 : Keeps9 wr W3 := (Keeps9.of_below (unhide HB2)).trans (Keeps9.of_below hbl3)
            have hB3 : Below w.heap.size w W3 := hBr2.trans (hbl3.mono hBr2.size)
            have hbs := hB3.size
            have HPUT := hide (put_any w.heap.size w2.heap.size _ nv lk R K nd ln.way _ _ W3 hbs hs3 hown3 (unhide HSR) (unhide HKI) HOK.out rfl (by omega) HNM.out rfl ((unhide HN).below hbl3) (by omega))
            have HK3 := hide hk3
            have HB3 := hide hB3
            clear hW3 hbl3 hown3 hk3 hB3
            refine (unhide HPUT).mono ?_
            rintro e w4 ⟨v4, er, rfl, hpok, hb4, hk4⟩
            have hB4 : Below w.heap.size w w4 := (unhide HB3).trans hb4
            cases hpd : putD R K ⟨(nd.kind, nd.size, nd.time, nd.text), ln.way⟩ with
            | no x =>
              rw [hpd] at hpok
              have hxe : er = x := hpok
              subst hxe
              have her := put_no_ne hpd
              rw [← HLN2.out] at hpd
              have HG := hide (HGO.out.symm.trans (goL_no a HNE.out HLN.out (by omega) hpd))
              have heb : (er != 0) = true := by rw [bne_iff_ne]; exact her
              clear hpok hk4 hb4 hpd her
              go_wp2
              go_ret3
              exact load_no HG.out hB4
            | yes R' K' =>
              rw [hpd] at hpok
              obtain ⟨rfl, lk', ho4, hsrt4⟩ := hpok
              rw [← HLN2.out] at hpd
              obtain ⟨hki4, hRl4⟩ := put_inv (unhide HKI) HOK.out (by have := HFT.out; omega) (by omega) hpd
              have HG := hide ((goL_yes a HNE.out HLN.out (by omega) hpd).symm.trans HGO.out)
              have hl4 : lk'.length = i + 2 := by
                have := hsrt4.len
                rw [List.length_map] at this; omega
              have hrow4 := row9_keep (unhide HROW) ((unhide HK3).trans hk4)
              have hcell4 : w4.cell? ⟨g1, i, none⟩ = some (.string y) := by
                have h1 := row_str hrow4 (unhide HY)
                exact h1
              have HR4 := hide hrow4
              have HO4 := hide ho4
              have HS4 := hide hsrt4
              have HI4 := hide hki4
              clear hrow4 ho4 hsrt4 hki4 hk4 hb4 hpd
              have hpl : a + ((y.size : Int) + 1) ≤ ((i : Int) + 1) * 20001 := by omega
              go_wp2
              go_roundw
              case rel => exact ⟨i + 1, a + (y.size : Int) + 1, R', K', lk', by omega, by go_num, by go_num, unhide HO4, unhide HS4, unhide HI4, hl4, by omega, ⟨BB, unhide HR4⟩, hB4, by omega, by omega, HG.out⟩
              case measure => simp [intOf]; omega
        · have HG := hide (HGO.out.symm.trans (goL_form a R K HNE.out hln))
          clear hln
          go_wp2
          go_ret3
          exact load_no HG.out (hBr2.alloc hBr2.size _)
end Go.Proofs.YtfemboojdablhaaGreatDoor.Tre
namespace Go.Proofs.YtfemboojdablhaaGreatDoor
open Tre (NodeD dirD nameIs kidOf)
noncomputable def meansD (p n : ByteArray) : Bool := @decide (wrongD p = 0 ∧ ∃ ps, patD p.size p.data.toList = .ok ps ∧ InE (meanD true ps) n.data.toList) (Classical.propDecidable _)
noncomputable def hitD (r : RuleD) (way : ByteArray) (dir : Bool) : Bool :=
  if r.dr && !dir then false else if r.fx then decide (wrongD r.pt = 0) && rowD meansD (partsS r.pt) (partsS way) else meansD r.pt (baseS way)
def ignS : ByteArray := ⟨#[46, 105, 103, 110, 111, 114, 101]⟩
def rulesD (L : List NodeD) (d : Nat) : List RuleD := match L[d]? with
  | some n => (match n.kids.find? (nameIs L ignS) with
    | some c => (match L[c]? with
      | some m => if m.kind = 102 then rulesOf m.text else []
      | none => [])
    | none => [])
  | none => []
noncomputable def saysG (L : List NodeD) (dir : Bool) : List (Nat × ByteArray) → Bool
  | [] => false
  | (up, way) :: ds => match (rulesD L up).reverse.find? (fun r => hitD r way dir) with
    | some r => !r.nt
    | none => saysG L dir ds
noncomputable def saysD (L : List NodeD) (k : Nat) : Bool := saysG L (isDirK L k) (dirsK L k)
noncomputable def ignD (L : List NodeD) (k : Nat) : Bool := (dirsK L k).any (fun d => saysD L d.1) || saysD L k
theorem tok_load {s : ByteArray} {L : List NodeD} (hs : Tre.Srt (Tre.loadD s).1 L) : TOK L := by
  rcases Tre.loadD_told s with ⟨_, ⟨K, hK⟩, _⟩ | ⟨e, _⟩
  · exact tok_of hK hs
  · have := hs.len
    rw [e] at this
    rw [List.eq_nil_of_length_eq_zero this]
    exact tok_nil
theorem ign_root {L : List NodeD} (h : TOK L) : ignD L 0 = false := by
  unfold ignD saysD
  rw [dirs_root h]
  rfl
end Go.Proofs.YtfemboojdablhaaGreatDoor
namespace Go.Proofs.YtfemboojdablhaaGreatDoor
open Go.RowKit Go.Shelf
theorem GW.teller_keep {A A' : World} (h : GW A) (hb : Below 14 A A') : GW A' := ⟨h.mx.below (by decide) hb, h.tab.below (by decide) hb, Nat.lt_of_lt_of_le h.big hb.size⟩
set_option maxRecDepth 100000 in
set_option maxHeartbeats 2000000 in
theorem means_any (p q : ByteArray) (w : World) (hG : GW w) (hq : q.size ≤ 1000000) :
    Calls Tryz.prog 126 #[.string p, .string q] w fun e w' => e = .returned (.bool (meansD p q)) ∧ Below w.heap.size w w' := by
  have hg := gmatch_any p q true w hG (by omega)
  go_enter Tryz.func126, Tryz.ntmps126
  go_wp2_with fail
  refine hg.mono ?_
  rintro e w' ⟨r, rfl, hr, hb⟩
  have HV : Hid ((r && ((wrongD p : Int) == 0)) = meansD p q) := by
    unfold Hid meansD
    by_cases h0 : wrongD p = 0
    · obtain ⟨ps, hps⟩ : ∃ ps, patD p.size p.data.toList = .ok ps := by
        unfold wrongD at h0
        split at h0
        · cases h0
        · cases hp : patD p.size p.data.toList with
          | ok ps => exact ⟨ps, rfl⟩
          | text => rw [hp] at h0; cases h0
          | range n => rw [hp] at h0; cases h0
      have h1 := hr ps h0 hps
      have e1 : ((wrongD p : Int) == 0) = true := by rw [h0]; rfl
      rw [e1, Bool.and_true, Bool.eq_iff_iff, h1, @decide_eq_true_iff _ (Classical.propDecidable _)]
      constructor
      · intro h; exact ⟨h0, ps, hps, h⟩
      · rintro ⟨_, ps', hps', h⟩
        rw [hps] at hps'
        cases hps'
        exact h
    · have e1 : ((wrongD p : Int) == 0) = false := by rw [beq_eq_false_iff_ne]; omega
      rw [e1, Bool.and_false]
      exact (@decide_eq_false _ (Classical.propDecidable _) (fun h => h0 h.1)).symm
  have HB := hide hb
  clear hr hb hg
  cases r with
  | true =>
    go_wp2
    go_ret
    refine ⟨?_, HB.out⟩
    rw [← HV.out]; rfl
  | false =>
    go_wp2
    go_ret
    refine ⟨?_, HB.out⟩
    rw [← HV.out]; rfl
theorem gw_teller : Teller GW meansD := ⟨fun _ h => h.big, fun _ _ h hb => h.teller_keep hb, fun p q w hq hG => means_any p q w hG hq⟩
end Go.Proofs.YtfemboojdablhaaGreatDoor
namespace Go.Proofs.YtfemboojdablhaaGreatDoor
open Go.RowKit Go.Shelf
theorem piece_le (c : UInt8) (l : List UInt8) : ∀ p ∈ splitL c l, p.length ≤ l.length := by
  induction l with
  | nil => intro p hp; simp [splitL] at hp; subst hp; simp
  | cons x r ih =>
    intro p hp
    by_cases h : x = c
    · subst h
      rw [split_same] at hp
      simp at hp
      rcases hp with rfl | hp
      · simp
      · have := ih p hp; simp; omega
    · obtain ⟨q, qs, e1, e2⟩ := split_other c x r h
      rw [e2] at hp
      rw [e1] at ih
      simp at hp
      rcases hp with rfl | hp
      · have := ih q (by simp); simp; omega
      · have := ih p (by simp [hp]); simp; omega
theorem cutS_le (c : UInt8) (s : ByteArray) : ∀ p ∈ cutS c s, p.size ≤ s.size := by
  intro p hp
  unfold cutS at hp
  obtain ⟨q, hq, rfl⟩ := List.mem_map.1 hp
  have := piece_le c s.data.toList q hq
  rw [← size_list, ← size_list s]
  exact this
theorem StrRow.up {B B' : Nat} {W : World} {v : Value} {xs : List ByteArray} (h : StrRow B W v xs) (hB : B ≤ B') : StrRow B' W v xs := by
  rcases h with h | ⟨g, cap, e, hg, hc, hx⟩
  · exact .inl h
  · exact .inr ⟨g, cap, e, by omega, hc, hx⟩
theorem parts_le (s : ByteArray) : ∀ p ∈ partsS s, p.size ≤ s.size := fun p hp => cutS_le 47 s p (List.mem_filter.1 hp).1
theorem base_le (s : ByteArray) : (baseS s).size ≤ s.size + 1 := by
  unfold baseS
  cases h : (partsS s).getLast? with
  | some x => exact Nat.le_succ_of_le (parts_le s x (List.mem_of_getLast? h))
  | none =>
    dsimp only
    split
    · exact Nat.zero_le _
    · show 1 ≤ _; omega
set_option maxRecDepth 100000 in
set_option maxHeartbeats 4000000 in
theorem hits_any (r : RuleD) (way : ByteArray) (dir : Bool) (w : World) (hG : GW w) (hw : way.size ≤ 100000) (hp : r.pt.size ≤ 100000) :
    Calls Tryz.prog 88 #[.agg #[.bool r.nt, .bool r.dr, .bool r.fx, .string r.pt], .string way, .bool dir] w fun e w' => e = .returned (.bool (hitD r way dir)) ∧ Below w.heap.size w w' := by
  obtain ⟨nt, dr, fx, pt⟩ := r
  dsimp only at hp ⊢
  obtain ⟨W0, hW0⟩ : ∃ W0, w.alloc (.cells #[.bool nt, .bool dr, .bool fx, .string pt] 153) = W0 := ⟨_, rfl⟩
  have hb0 : Below w.heap.size w W0 := by rw [← hW0]; exact (Below.refl _ _).alloc (Nat.le_refl _) _
  have hbx : W0.heap[w.heap.size]? = some (.cells #[.bool nt, .bool dr, .bool fx, .string pt] 153) := by rw [← hW0]; exact World.alloc_heap_new w _
  have k1 : W0.cell? ⟨w.heap.size, 1, none⟩ = some (.bool dr) := by simp [World.cell?, hbx]
  have k2 : W0.cell? ⟨w.heap.size, 2, none⟩ = some (.bool fx) := by simp [World.cell?, hbx]
  have k3 : W0.cell? ⟨w.heap.size, 3, none⟩ = some (.string pt) := by simp [World.cell?, hbx]
  have hG0 : GW W0 := hG.below hb0
  have HB0 := hide hb0
  have HW := hide hW0
  clear hbx hb0 hW0
  by_cases hdd : dr = true ∧ dir = false
  · obtain ⟨rfl, rfl⟩ := hdd
    go_enter Tryz.func88, Tryz.ntmps88
    go_wp2_with (rw [HW.out])
    go_ret
    exact ⟨rfl, HB0.out⟩
  · have hcd : (dr && !dir) = false := by
      cases dr <;> cases dir <;> simp at hdd ⊢
    have HH : Hid (hitD ⟨nt, dr, fx, pt⟩ way dir = (if fx then decide (wrongD pt = 0) && rowD meansD (partsS pt) (partsS way) else meansD pt (baseS way))) := by
      unfold Hid hitD
      dsimp only
      rw [hcd]
      rfl
    have hbl := base_le way
    have HBA := hide (base_any way W0.drew (by omega))
    have hGd : GW W0.drew := hG0.teller_keep (Below.refl _ _).drew
    have HME := hide (means_any pt (baseS way) W0.drew hGd (by omega))
    have HTA := hide (takes_any pt W0 hG0.mx (by have := hG0.big; omega))
    clear hG hGd
    cases fx with
    | false =>
      clear HTA
      cases dr with
      | false =>
        cases dir with
        | false =>
          clear hcd hdd
          go_enter Tryz.func88, Tryz.ntmps88
          go_wp2_with (rw [HW.out])
          refine (fun (KEY : ∀ w', Below W0.heap.size W0.drew w' → (?G1 : World → Prop) w') => ?main1) ?key1
          case main1 =>
            go_region_law (first
              | (refine step_calls rfl 99 #[.tmp 18] #[9] rfl #[.string way] (by simp only [List.map_toArray, List.map_cons, List.map_nil]; rfl) (enters_of Tryz.func99 (by kernel_rfl) rfl) (unhide HBA) ?_; rintro e w6' ⟨he6, hw6⟩; refine ⟨_, he6, ?_⟩; rw [hw6])
              | (refine step_calls rfl 126 #[.tmp 17, .tmp 19] #[9, 9] rfl #[.string pt, .string (baseS way)] (by simp only [List.map_toArray, List.map_cons, List.map_nil]; rfl) (enters_of Tryz.func126 (by kernel_rfl) rfl) (unhide HME) ?_; rintro e w6 ⟨he6, hb6⟩; refine ⟨_, he6, ?_⟩))
            all_goals exact KEY _ hb6
          case key1 =>
            intro w6 hb6
            have HB6 : Hid (Below w.heap.size w w6) := HB0.out.trans (((Below.refl _ W0).drew.trans hb6).mono HB0.out.size)
            clear hb6
            go_wp2
            go_ret
            refine ⟨?_, HB6.out⟩
            rw [HH.out]; rfl
        | true =>
          clear hcd hdd
          go_enter Tryz.func88, Tryz.ntmps88
          go_wp2_with (rw [HW.out])
          refine (fun (KEY : ∀ w', Below W0.heap.size W0.drew w' → (?G2 : World → Prop) w') => ?main2) ?key2
          case main2 =>
            go_region_law (first
              | (refine step_calls rfl 99 #[.tmp 18] #[9] rfl #[.string way] (by simp only [List.map_toArray, List.map_cons, List.map_nil]; rfl) (enters_of Tryz.func99 (by kernel_rfl) rfl) (unhide HBA) ?_; rintro e w6' ⟨he6, hw6⟩; refine ⟨_, he6, ?_⟩; rw [hw6])
              | (refine step_calls rfl 126 #[.tmp 17, .tmp 19] #[9, 9] rfl #[.string pt, .string (baseS way)] (by simp only [List.map_toArray, List.map_cons, List.map_nil]; rfl) (enters_of Tryz.func126 (by kernel_rfl) rfl) (unhide HME) ?_; rintro e w6 ⟨he6, hb6⟩; refine ⟨_, he6, ?_⟩))
            all_goals exact KEY _ hb6
          case key2 =>
            intro w6 hb6
            have HB6 : Hid (Below w.heap.size w w6) := HB0.out.trans (((Below.refl _ W0).drew.trans hb6).mono HB0.out.size)
            clear hb6
            go_wp2
            go_ret
            refine ⟨?_, HB6.out⟩
            rw [HH.out]; rfl
      | true =>
        cases dir with
        | false => exact absurd ⟨rfl, rfl⟩ hdd
        | true =>
          clear hcd hdd
          go_enter Tryz.func88, Tryz.ntmps88
          go_wp2_with (rw [HW.out])
          refine (fun (KEY : ∀ w', Below W0.heap.size W0.drew w' → (?G3 : World → Prop) w') => ?main3) ?key3
          case main3 =>
            go_region_law (first
              | (refine step_calls rfl 99 #[.tmp 18] #[9] rfl #[.string way] (by simp only [List.map_toArray, List.map_cons, List.map_nil]; rfl) (enters_of Tryz.func99 (by kernel_rfl) rfl) (unhide HBA) ?_; rintro e w6' ⟨he6, hw6⟩; refine ⟨_, he6, ?_⟩; rw [hw6])
              | (refine step_calls rfl 126 #[.tmp 17, .tmp 19] #[9, 9] rfl #[.string pt, .string (baseS way)] (by simp only [List.map_toArray, List.map_cons, List.map_nil]; rfl) (enters_of Tryz.func126 (by kernel_rfl) rfl) (unhide HME) ?_; rintro e w6 ⟨he6, hb6⟩; refine ⟨_, he6, ?_⟩))
            all_goals exact KEY _ hb6
          case key3 =>
            intro w6 hb6
            have HB6 : Hid (Below w.heap.size w w6) := HB0.out.trans (((Below.refl _ W0).drew.trans hb6).mono HB0.out.size)
            clear hb6
            go_wp2
            go_ret
            refine ⟨?_, HB6.out⟩
            rw [HH.out]; rfl
    | true =>
      clear HBA HME
      cases dr <;> cases dir
      all_goals
        first
        | (exfalso; simp at hdd; done)
        | (clear hcd hdd
           go_enter Tryz.func88, Tryz.ntmps88
           go_wp2_with (rw [HW.out])
           refine (unhide HTA).mono ?_
           rintro e w1 ⟨rfl, hb1⟩
           have HB1 := hide (HB0.out.trans (hb1.mono HB0.out.size))
           cases hwp : decide (wrongD pt = 0)
           · clear hb1
             go_wp2
             go_ret
             refine ⟨?_, HB1.out⟩
             rw [HH.out, hwp]; rfl
           · have hlt : w.heap.size < W0.heap.size := by rw [← HW.out]; simp
             have k3' := (hb1.cell (p := ⟨w.heap.size, 3, none⟩) hlt).trans k3
             have hP1 := parts_any pt w1 (by omega)
             have HG1 := hide (hG0.below hb1)
             clear hb1
             go_wp2_with fail
             refine hP1.mono ?_
             rintro e w2 ⟨v2, rfl, hown2, hb2⟩
             obtain ⟨a2, c2, rfl⟩ : ∃ a c, v2 = .slice a (partsS pt).length c := by
               rcases hown2.2 with ⟨e, h0⟩ | ⟨g, c, cur, e, _⟩
               · exact ⟨none, 0, by rw [e, show (partsS pt).length = 0 from h0]⟩
               · exact ⟨_, _, e⟩
             have HR2 := hide (StrRow.of_owns hown2)
             have HB2 := hide hb2
             have HG2 := hide (HG1.out.below hb2)
             have hP2 := parts_any way w2 (by omega)
             clear hown2 hb2 hP1 k3'
             go_wp2_with fail
             refine hP2.mono ?_
             rintro e w3 ⟨v3, rfl, hown3, hb3⟩
             obtain ⟨a3, c3, rfl⟩ : ∃ a c, v3 = .slice a (partsS way).length c := by
               rcases hown3.2 with ⟨e, h0⟩ | ⟨g, c, cur, e, _⟩
               · exact ⟨none, 0, by rw [e, show (partsS way).length = 0 from h0]⟩
               · exact ⟨_, _, e⟩
             have hl1 := partsS_length pt
             have hl2 := partsS_length way
             have hRM := rowMeans_any GW meansD gw_teller a2 a3 c2 c3 w3.heap.size (partsS pt) (partsS way) w3 (HG2.out.below hb3) (Nat.le_refl _) ((HR2.out.below hb3).up hb3.size) (StrRow.of_owns hown3) (by omega) (by omega) (fun q hq => by have := parts_le way q hq; omega)
             have HB3 : Hid (Below w.heap.size w w3) := HB1.out.trans ((HB2.out.trans (hb3.mono HB2.out.size)).mono HB1.out.size)
             clear hown3 hb3 hP2 hl1 hl2
             go_wp2_with fail
             refine hRM.mono ?_
             rintro e w4 ⟨rfl, hb4⟩
             have HB4 : Hid (Below w.heap.size w w4) := HB3.out.trans (hb4.mono HB3.out.size)
             clear hb4 hRM
             go_wp2
             go_ret
             refine ⟨?_, HB4.out⟩
             rw [HH.out, hwp]; rfl)
end Go.Proofs.YtfemboojdablhaaGreatDoor
namespace Go.Proofs.YtfemboojdablhaaGreatDoor.Tre
open Go.RowKit
theorem NodeRow.form {C : Nat} {W : World} {v : Value} {L : List NodeD} (h : NodeRow C W v L) : ∃ a cap, v = .slice a L.length cap := by
  rcases h with ⟨rfl, rfl⟩ | ⟨g, cap, rfl, _⟩
  · exact ⟨_, _, rfl⟩
  · exact ⟨_, _, rfl⟩
theorem IntRow.form {C : Nat} {W : World} {v : Value} {ks : List Nat} (h : IntRow C W v ks) : ∃ a cap, v = .slice a ks.length cap ∧ ∀ (j k : Nat), ks[j]? = some k → ∃ g, a = some ⟨g, 0, none⟩ ∧ ks.length ≤ cap ∧ W.cell? ⟨g, j, none⟩ = some (.int .i64 (k : Int)) := by
  rcases h with ⟨rfl, rfl⟩ | ⟨g, cap, rfl, _, hc, hx⟩
  · exact ⟨_, _, rfl, fun j k h => by simp at h⟩
  · exact ⟨_, _, rfl, fun j k h => ⟨g, rfl, hc, hx j k h⟩⟩
theorem NodeRow.at {C : Nat} {W : World} {a : Option Addr} {m cap : Nat} {L : List NodeD} (h : NodeRow C W (.slice a m cap) L) {i : Nat} {n : NodeD} (hi : L[i]? = some n) : ∃ g ka km kc, a = some ⟨g, 0, none⟩ ∧ g < C ∧ L.length ≤ cap ∧ NodeAt W g i n (.slice ka km kc) ∧ IntRow C W (.slice ka km kc) n.kids := by
  rcases h with ⟨_, rfl⟩ | ⟨g, cap', e, hg, hc, hx⟩
  · simp at hi
  · cases e
    obtain ⟨kv, h1, h2⟩ := hx i n hi
    obtain ⟨ka, kc, rfl, _⟩ := h2.form
    exact ⟨g, ka, _, kc, rfl, hg, hc, h1, h2⟩
theorem box7 {W : World} {b t : Nat} {x0 x1 x2 x3 x4 x5 x6 : Value} (h : W.heap[b]? = some (.cells #[x0, x1, x2, x3, x4, x5, x6] t)) :
    W.cell? ⟨b, 0, none⟩ = some x0 ∧ W.cell? ⟨b, 1, none⟩ = some x1 ∧ W.cell? ⟨b, 2, none⟩ = some x2 ∧ W.cell? ⟨b, 3, none⟩ = some x3 ∧ W.cell? ⟨b, 4, none⟩ = some x4 ∧ W.cell? ⟨b, 5, none⟩ = some x5 ∧ W.cell? ⟨b, 6, none⟩ = some x6 := by
  simp [World.cell?, h]
end Go.Proofs.YtfemboojdablhaaGreatDoor.Tre
