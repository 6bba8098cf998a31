/- The reference's step. -/
import Derived.Test.YtehbjabneocflaaDoorSpec
namespace Go.Proofs.YtehbjabneocflaaDoor
open Go.RowKit

def AtOK (L : List NodeD) (v : Value) (C b F : Nat) : Prop :=
  ∀ (k : Nat) (s : ByteArray) (fo : Bool) (links : Nat) (w : World), k < L.length → s.size ≤ 1073741824 → links ≤ 40 → 41 ≤ F + links → NodeRow C w v L → FB 65 w b v links →
    Calls Tryd.prog 29 #[.pointer (some ⟨b, 0, none⟩), .int .i64 (k : Int), .string s, .bool fo] w (AtPost 65 v b (findD L F k s fo links) w)
theorem at_mk {t b links : Nat} {v : Value} {r : FRes} {w w' : World} {x y : Int} (h : r = (x.toNat, y, links)) (hx : 0 ≤ x) (hf : FB t w' b v links) (hg : w.grownBy w' (some b)) : AtPost t v b r w (.returned (.tuple #[.int .i64 x, .int .i64 y])) w' := by
  subst h
  refine ⟨?_, hf, hg⟩
  show _ = Ending.returned (.tuple #[.int .i64 (x.toNat : Int), .int .i64 y])
  rw [Int.toNat_of_nonneg hx]

set_option maxRecDepth 100000 in
set_option maxHeartbeats 2000000 in
theorem refstep_any (L : List NodeD) (v : Value) (C b F : Nat) (hwf : WF L) (hC : C ≤ b) (IH : AtOK L v C b F) (k : Nat) (n : NodeD) (p : ByteArray) (th : Bool) (links : Nat) (w : World) (hk : L[k]? = some n) (hl : links ≤ 40) (hF : 41 ≤ F + (links + 1)) (hrow : NodeRow C w v L) (hfb : FB 65 w b v links) :
    Calls Tryd.prog 47 #[.pointer (some ⟨b, 0, none⟩), .int .i64 (k : Int), .string p, .bool th] w (AtPost 65 v b (stepD L (fun k t l => findD L F k t true l) k n p th links) w) := by
  have hlt := (List.getElem?_eq_some_iff.1 hk).1
  have hlen := hwf.len
  have hupn := hwf.up k n hk
  have c0 := hfb.c0
  have c1 := hfb.c1
  have f1 := hfb.fr 1
  have HROW := hide hrow
  have HFB := hide hfb
  have HIH := hide IH
  have HWF := hide hwf
  obtain ⟨g, cap, rfl, hg, hcap, hx⟩ : ∃ g cap, v = .slice (some ⟨g, 0, none⟩) L.length cap ∧ g < C ∧ L.length ≤ cap ∧ ∀ (i : Nat) (n : NodeD), L[i]? = some n → ∃ kv, NodeAt w g i n kv ∧ IntRow C w kv n.kids := by
    rcases hrow with ⟨_, rfl⟩ | h
    · simp at hlt
    · exact h
  obtain ⟨kv, ⟨_, _, n2, _, _, _, _⟩, _⟩ := hx k n hk
  have HX := hide hx
  clear hrow hfb IH hwf hx
  cases h1 : (p.toList == [46])
  · cases h2 : (p.toList == [46, 46])
    · have HK := hide (kid_any C _ L k n p w (by omega) (unhide HROW) hk ((unhide HWF).kid_lt hk) (by have := (unhide HWF).klen k n hk; omega))
      rcases kidOf_cases L n.kids p with hkid | ⟨c, hkid, hcm⟩
      · have HS : Hid (stepD L (fun k t l => findD L F k t true l) k n p th links = (0, 6, links)) := by unfold Hid stepD; rw [h1, h2, hkid]; rfl
        rw [hkid] at HK
        clear hkid
        go_enter Tryd.func47, Tryd.ntmps47
        go_wp2_with (go_at_call 40; refine (unhide HK).mono ?_; rintro e w' ⟨rfl, rfl⟩)
        go_ret2
        exact at_mk HS.out (by omega) (unhide HFB) (grown_of_below (Below.refl _ _))
      · obtain ⟨m, hm, _⟩ := (unhide HWF).kids k n hk c hcm
        have hcl := (List.getElem?_eq_some_iff.1 hm).1
        obtain ⟨kv2, ⟨m0, _, _, _, _, m5, _⟩, _⟩ := (unhide HX) c m hm
        rw [hkid] at HK
        cases hm108 : (m.kind == 108 && th)
        · have HS : Hid (stepD L (fun k t l => findD L F k t true l) k n p th links = (c, 0, links)) := by unfold Hid stepD; rw [h1, h2, hkid, Int.toNat_natCast, hm]; simp [hm108]
          clear hkid hm hcm
          go_enter Tryd.func47, Tryd.ntmps47
          cases h108 : (m.kind == 108)
          · have h108' : (m.kind != 108) = true := by rw [bne_iff_ne]; simpa using h108
            go_wp2_with (go_at_call 40; refine (unhide HK).mono ?_; rintro e w' ⟨rfl, rfl⟩)
            go_ret2
            exact at_mk HS.out (by omega) (unhide HFB) (grown_of_below (Below.refl _ _))
          · have hth : th = false := by rw [h108] at hm108; simpa using hm108
            subst hth
            have h108' : (m.kind != 108) = false := by rw [bne_eq_false_iff_eq]; simpa using h108
            go_wp2_with (go_at_call 40; refine (unhide HK).mono ?_; rintro e w' ⟨rfl, rfl⟩)
            go_ret2
            exact at_mk HS.out (by omega) (unhide HFB) (grown_of_below (Below.refl _ _))
        · simp only [Bool.and_eq_true] at hm108
          obtain ⟨h108, rfl⟩ := hm108
          have h108' : (m.kind != 108) = false := by rw [bne_eq_false_iff_eq]; simpa using h108
          by_cases h40 : 40 ≤ links
          · have HS : Hid (stepD L (fun k t l => findD L F k t true l) k n p true links = (0, 9, links)) := by unfold Hid stepD; rw [h1, h2, hkid, Int.toNat_natCast, hm]; simp [h108, h40]
            have h40' : (40 : Int) ≤ (links : Int) := by omega
            clear hkid hm hcm
            go_enter Tryd.func47, Tryd.ntmps47
            go_wp2_with (go_at_call 40; refine (unhide HK).mono ?_; rintro e w' ⟨rfl, rfl⟩)
            go_ret2
            exact at_mk HS.out (by omega) (unhide HFB) (grown_of_below (Below.refl _ _))
          · have HS : Hid (stepD L (fun k t l => findD L F k t true l) k n p true links = findD L F k m.text true (links + 1)) := by unfold Hid stepD; rw [h1, h2, hkid, Int.toNat_natCast, hm]; simp [h108, h40]
            have h40' : ¬ (40 : Int) ≤ (links : Int) := by omega
            have htx := (unhide HWF).text c m hm
            clear hkid hm hcm
            have hgb : ¬ g = b := by omega
            have hbg : ¬ b = g := by omega
            go_enter Tryd.func47, Tryd.ntmps47
            go_wp2_with (go_at_call 40; refine (unhide HK).mono ?_; rintro e w' ⟨rfl, rfl⟩)
            have hfb2 : FB 65 (w'.setCell ⟨b, 1, none⟩ (.int .i64 ((links : Int) + 1))) b (.slice (some ⟨g, 0, none⟩) L.length cap) (links + 1) := (unhide HFB).set (links + 1)
            have hg1 := set_grown w' b 1 (.int .i64 ((links : Int) + 1))
            refine ((unhide HIH) k m.text true (links + 1) _ hlt (by omega) (by omega) (by omega) ((unhide HROW).grown hg1 hC) hfb2).mono ?_
            rintro e w2 ⟨rfl, hf2, hg2⟩
            go_wp2
            go_ret2
            exact ⟨by rw [HS.out]; rfl, by rw [HS.out]; exact hf2, hg1.trans hg2⟩
    · by_cases hk0 : k = 0
      · subst hk0
        have HS : Hid (stepD L (fun k t l => findD L F k t true l) 0 n p th links = (0, 0, links)) := by unfold Hid stepD; rw [h1, h2]; rfl
        go_enter Tryd.func47, Tryd.ntmps47
        go_wp2
        go_ret2
        exact at_mk HS.out (by omega) (unhide HFB) (grown_of_below (Below.refl _ _))
      · have hup := hupn (by omega)
        have HS : Hid (stepD L (fun k t l => findD L F k t true l) k n p th links = (n.up.toNat, 0, links)) := by unfold Hid stepD; rw [h1, h2]; simp [hk0]
        have hk0' : ((k : Int) == 0) = false := by rw [beq_eq_false_iff_ne]; omega
        clear hupn
        go_enter Tryd.func47, Tryd.ntmps47
        go_wp2
        go_ret2
        exact at_mk HS.out (by omega) (unhide HFB) (grown_of_below (Below.refl _ _))
  · have HS : Hid (stepD L (fun k t l => findD L F k t true l) k n p th links = (k, 0, links)) := by unfold Hid stepD; rw [h1]; rfl
    go_enter Tryd.func47, Tryd.ntmps47
    go_wp2
    go_ret2
    exact at_mk HS.out (by omega) (unhide HFB) (grown_of_below (Below.refl _ _))

theorem NodeRow.at_ {C g m cap i : Nat} {W : World} {L : List NodeD} {n : NodeD} (h : NodeRow C W (.slice (some ⟨g, 0, none⟩) m cap) L) (hi : L[i]? = some n) : ∃ kv, NodeAt W g i n kv ∧ IntRow C W kv n.kids := by
  rcases h with ⟨e, _⟩ | ⟨g', cap', e, _, _, hx⟩
  · cases e
  · cases e; exact hx i n hi
theorem StrRow.at_ {C g m cap i : Nat} {W : World} {xs : List ByteArray} {x : ByteArray} (h : StrRow C W (.slice (some ⟨g, 0, none⟩) m cap) xs) (hi : xs[i]? = some x) : W.cell? ⟨g, i, none⟩ = some (.string x) := by
  rcases h with ⟨e, _⟩ | ⟨g', cap', e, _, _, hx⟩
  · cases e
  · cases e; exact hx i x hi
theorem StrRow.below_grown {C g m cap : Nat} {W W' : World} {xs : List ByteArray} (h : StrRow C W (.slice (some ⟨g, 0, none⟩) m cap) xs) (hb : Below W.heap.size W W') : StrRow C W' (.slice (some ⟨g, 0, none⟩) m cap) xs := by
  rcases h with ⟨e, _⟩ | ⟨g', cap', e, h1, h2, hx⟩
  · cases e
  · cases e
    exact .inr ⟨g, cap, rfl, h1, h2, fun j x hj => (grown_of_below (b := W'.heap.size) hb).cell (a := ⟨g, j, none⟩) (hx j x hj) (fun e => by
      have e2 := Option.some.inj e
      have hbk : g < W.heap.size := World.block_lt_of_cell? W ⟨g, j, none⟩ (hx j x hj)
      have hz := hb.size
      have e3 : g = W'.heap.size := e2
      omega)⟩
theorem StrRow.grown {C b g m cap : Nat} {W W' : World} {xs : List ByteArray} (h : StrRow C W (.slice (some ⟨g, 0, none⟩) m cap) xs) (hg : W.grownBy W' (some b)) (hne : g ≠ b) : StrRow C W' (.slice (some ⟨g, 0, none⟩) m cap) xs := by
  rcases h with ⟨e, _⟩ | ⟨g', cap', e, h1, h2, hx⟩
  · cases e
  · cases e
    exact .inr ⟨g, cap, rfl, h1, h2, fun j x hj => hg.cell (a := ⟨g, j, none⟩) (hx j x hj) (fun e => hne (Option.some.inj e))⟩
theorem start_yes {s : ByteArray} (h : 1 ≤ s.size) (hc : (s[0].toNat : Int) = 47) (k : Nat) : startAt s k = 0 := by
  unfold startAt
  have hd := drop_get s 0 (by omega)
  rw [List.drop_zero] at hd
  have h3 : s[0] = 47 := UInt8.toNat_inj.1 (by have : (47 : UInt8).toNat = 47 := rfl; omega)
  rw [hd, h3]; rfl
theorem start_no {s : ByteArray} (h : 1 ≤ s.size) (hc : ¬ (s[0].toNat : Int) = 47) (k : Nat) : startAt s k = k := by
  unfold startAt
  have hd := drop_get s 0 (by omega)
  rw [List.drop_zero] at hd
  rw [hd, if_neg]
  intro e
  have : s[0] = 47 := by simpa using e
  exact hc (by rw [this]; rfl)
theorem go_cons {L : List NodeD} {thr : Nat → ByteArray → Nat → FRes} {last : Bool} {ps : List ByteArray} {j k links : Nat} {p : ByteArray} {n : NodeD} (hj : ps[j]? = some p) (hn : L[k]? = some n) (hd : dirD n = true) :
    goD L thr last (ps.drop j) k links = if (stepD L thr k n p (last || decide (j < ps.length - 1)) links).2.1 = 0 then goD L thr last (ps.drop (j + 1)) (stepD L thr k n p (last || decide (j < ps.length - 1)) links).1 (stepD L thr k n p (last || decide (j < ps.length - 1)) links).2.2
      else (0, (stepD L thr k n p (last || decide (j < ps.length - 1)) links).2.1, (stepD L thr k n p (last || decide (j < ps.length - 1)) links).2.2) := by
  have hlt := (List.getElem?_eq_some_iff.1 hj).1
  have he := (List.getElem?_eq_some_iff.1 hj).2
  have e1 : (!(ps.drop (j + 1)).isEmpty) = decide (j < ps.length - 1) := by
    rw [Bool.eq_iff_iff, decide_eq_true_eq]
    simp [List.drop_eq_nil_iff]
    omega
  rw [List.drop_eq_getElem_cons hlt, he]
  conv => lhs; unfold goD
  rw [hn, e1]
  show (if dirD n = false then _ else _) = _
  rw [hd]
  rfl
theorem go_dir {L : List NodeD} {thr : Nat → ByteArray → Nat → FRes} {last : Bool} {ps : List ByteArray} {j k links : Nat} {p : ByteArray} {n : NodeD} (hj : ps[j]? = some p) (hn : L[k]? = some n) (hd : dirD n = false) :
    goD L thr last (ps.drop j) k links = (0, 7, links) := by
  have hlt := (List.getElem?_eq_some_iff.1 hj).1
  rw [List.drop_eq_getElem_cons hlt]
  unfold goD
  rw [hn]
  show (if dirD n = false then _ else _) = _
  rw [if_pos hd]

end Go.Proofs.YtehbjabneocflaaDoor
