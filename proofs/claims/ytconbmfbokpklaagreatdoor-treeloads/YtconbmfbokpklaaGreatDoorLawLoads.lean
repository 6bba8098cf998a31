/- The walk of TreeLoads. -/
import Derived.Test.YtconbmfbokpklaaGreatDoorGTree
import Derived.Test.YtconbmfbokpklaaGreatDoorSame
import Derived.Test.YtconbmfbokpklaaGreatDoorGNodes
namespace Go.Proofs.YtconbmfbokpklaaGreatDoor
open Go.RowKit Go.Maps
theorem Owned.form {t B : Nat} {W : World} {v : Value} {l : List (NodeD × Value)} (h : Owned t B W v l) : (v = .slice none 0 0 ∧ l = []) ∨ ∃ g cap, v = .slice (some ⟨g, 0, none⟩) l.length cap := by
  rcases h.1.2 with ⟨rfl, h2⟩ | ⟨g, cap, cur, rfl, _⟩
  · exact .inl ⟨rfl, List.eq_nil_of_length_eq_zero h2⟩
  · exact .inr ⟨g, cap, rfl⟩
set_option maxRecDepth 100000 in
set_option maxHeartbeats 4000000 in
theorem law_loads {A : Ads} (s : ByteArray) (w : World) (hs : s.size ≤ maxLen) (hS : Sent w.heap.size A w) :
    Calls Tryz.prog 3 #[.string s] w fun e w' => e = .returned (.bool true) ∧ Below w.heap.size w w' := by
  have HS := hide hS
  have HLIM := hide (loadD_lim s)
  clear hS
  go_enter Tryz.func3, Tryz.ntmps3
  go_wp2_with fail
  refine (treeLoad_any s hs w (unhide HS)).mono ?_
  rintro e w1 ⟨v, l, rfl, hown1, hsrt1, hb1⟩
  have HOWN1 := hide hown1
  have HSRT1 := hide hsrt1
  have HB1 := hide hb1
  have HR1 := hide (hown1.row)
  have hz1 := hb1.size
  have HS1 := hide (((unhide HS).below hb1).up hz1)
  have HF := hide hown1.form
  clear hown1 hsrt1 hb1
  go_wp2_with fail
  refine (treeLoad_any _ (by decide) w1 (unhide HS1)).mono ?_
  rintro e w2 ⟨v2, l2, rfl, _, _, hb2⟩
  have HB2 := hide hb2
  have hz2 := hb2.size
  clear hb2
  go_wp2_with fail
  refine (refload_any s w2 hs).mono ?_
  rintro e w3 ⟨u, m, rfl, hown3, hsrt3, hb3⟩
  have HOWN3 := hide hown3
  have HB3 := hide hb3
  have hz3 := hb3.size
  have hml := hsrt3.uniq HSRT1.out
  have HROW3 := hide (hown3.row)
  rw [hml] at HROW3
  have HLS := hide (HLIM.out.1.srt HSRT1.out)
  have HML := hide hml
  clear hown3 hsrt3 hb3 hml
  go_wp2_with fail
  refine (sameNodes_any w1.heap.size w3.heap.size v u (l.map (·.1)) w3 HLS.out.1 HLS.out.2 (HR1.out.below (HB2.out.trans (HB3.out.mono hz2))) HROW3.out (by omega) (by omega)).mono ?_
  rintro e w4 ⟨rfl, hb4⟩
  have HB4 := hide hb4
  have hz4 := hb4.size
  clear hb4
  have HN := hide (lawnum_any (loadD s).2.1 w4 HLIM.out.2)
  generalize (loadD s).2.1 = er at HN ⊢
  generalize (loadD s).2.2 = pl at HN ⊢
  go_wp2_with fail
  refine (unhide HN).mono ?_
  rintro e w5 ⟨rfl, hw5⟩
  rw [hw5]; clear hw5
  have HSP := hide (Spo.start (B := w.heap.size) HOWN1.out (Nat.le_refl _) ((HB2.out.trans (HB3.out.mono hz2)).trans (HB4.out.mono (by omega))))
  obtain ⟨a, cap, rfl, hag⟩ : ∃ a cap, v = .slice a l.length cap ∧ (0 < l.length → ∃ g, a = some ⟨g, 0, none⟩) := by
    rcases HF.out with ⟨rfl, rfl⟩ | ⟨g, cap, rfl⟩
    · exact ⟨none, 0, rfl, fun h => absurd h (by simp)⟩
    · exact ⟨_, _, rfl, fun _ => ⟨g, rfl⟩⟩
  have HAG := hide hag
  clear hag HF
  · have hll : l.length ≤ 201 := by have := HLS.out.1; rw [List.length_map] at this; exact this
    go_wp2
    go_loopw [10] (fun iv wr => ∃ i : Nat, i ≤ l.length ∧ iv = .int .i64 i ∧ Spo w.heap.size w1.heap.size w4 wr (.slice a l.length cap) l (i * 7)) (fun iv _ => l.length - (intOf iv).toNat)
    case atStart => exact ⟨0, Nat.zero_le _, rfl, by simpa using HSP.out⟩
    case round =>
      obtain ⟨i, hi, rfl, hsp⟩ := hrel
      by_cases hlt : i < l.length
      · obtain ⟨g, rfl⟩ := HAG.out (by omega)
        obtain ⟨p, hp⟩ : ∃ p, l[i]? = some p := ⟨_, List.getElem?_eq_getElem hlt⟩
        have hil : (i : Int) < (l.length : Int) := by omega
        have HSPI := hide hsp
        have HP := hide hp
        clear hp hsp
        obtain ⟨ka, kc, hpe, hka⟩ : ∃ ka kc, p.2 = .slice ka p.1.kids.length kc ∧ (0 < p.1.kids.length → ∃ b, ka = some ⟨b, 0, none⟩ ∧ p.1.kids.length ≤ kc) := by
          obtain ⟨ys, hy⟩ := HSPI.out.kids p (List.mem_of_getElem? HP.out)
          rcases hy.2 with ⟨e, h0⟩ | ⟨b, kc, cur, e, _, _, hn, _⟩
          · exact ⟨none, 0, by rw [e, h0], fun h => by omega⟩
          · exact ⟨_, _, e, fun _ => ⟨b, rfl, hn⟩⟩
        have HPE := hide hpe
        have HKA := hide hka
        have hkl : p.1.kids.length ≤ 1000 := HLS.out.2 i p.1 (by rw [List.getElem?_map, HP.out]; rfl)
        clear hpe hka
        go_wp2
        go_loopw [11] (fun kv wr => ∃ k : Nat, k ≤ p.1.kids.length ∧ kv = .int .i64 k ∧ Spo w.heap.size w1.heap.size w4 wr (.slice (some ⟨g, 0, none⟩) l.length cap) l (i * 7)) (fun kv _ => p.1.kids.length - (intOf kv).toNat)
        case atStart => exact ⟨0, Nat.zero_le _, rfl, HSPI.out⟩
        case round =>
          clear HSPI
          obtain ⟨k, hk, rfl, hsp⟩ := hrel
          obtain ⟨c0, c1, c2, c3, c4, c5, c6⟩ := hsp.at (Nat.le_refl _) HP.out
          rw [HPE.out] at c6
          by_cases hkt : k < p.1.kids.length
          · obtain ⟨b, hkb, hkc⟩ := HKA.out (by omega)
            rw [hkb] at c6
            have hfz : wr.frozen? ⟨b, k, none⟩ = false := by
              obtain ⟨ys, hy⟩ := hsp.kids p (List.mem_of_getElem? HP.out)
              rw [HPE.out, hkb] at hy
              exact own_frozen hy k
            obtain ⟨z, hz⟩ : ∃ z, wr.cell? ⟨b, k, none⟩ = some z := by
              obtain ⟨ys, hy⟩ := hsp.kids p (List.mem_of_getElem? HP.out)
              rw [HPE.out, hkb] at hy
              exact own_has hy (by omega)
            have HSP2 := hide (hsp.kid (k := k) (List.mem_of_getElem? HP.out) (HPE.out.trans (by rw [hkb])) (.int .i64 (-7)))
            have HKB := hide hkb
            clear hsp hkb
            have hkI : (k : Int) < (p.1.kids.length : Int) := by omega
            clear c0 c1 c2 c3 c4 c5
            go_wp2
            go_roundw
            case rel => exact ⟨k + 1, by omega, by go_num, HSP2.out⟩
            case measure => simp [intOf]; omega
          · obtain rfl : k = p.1.kids.length := by omega
            have hfz : ∀ j, wr.frozen? ⟨g, j, none⟩ = false := by
              obtain ⟨xs, hx, _⟩ := hsp.row
              exact own_frozen hx
            have f0 := hfz (i * 7)
            have f1 := hfz (i * 7 + 1)
            have f2 := hfz (i * 7 + 2)
            have f3 := hfz (i * 7 + 3)
            have f4 := hfz (i * 7 + 4)
            have f5 := hfz (i * 7 + 5)
            have f6 := hfz (i * 7 + 6)
            have HSP2 := hide hsp
            clear hsp hfz
            go_wp2
            go_roundw
            case rel =>
              have h1 := HSP2.out.le (t' := (i + 1) * 7) (by omega)
              exact ⟨i + 1, by omega, by go_num, ((((((h1.node (by omega) _).node (by omega) _).node (by omega) _).node (by omega) _).node (by omega) _).node (by omega) _).node (by omega) _⟩
            case measure => simp [intOf]; omega
      · obtain rfl : i = l.length := by omega
        have HSPX := hide hsp
        have hzr := hsp.size
        have hbw : Below w.heap.size w wr := ((HB1.out.trans (HB2.out.mono hz1)).trans ((HB3.out.mono (by omega)).trans (HB4.out.mono (by omega)))).trans hsp.below
        have HBW := hide hbw
        have hzw := hbw.size
        have HSW := hide ((HS.out.below hbw).up hzw)
        have HU := hide (hsp.owned (HOWN3.out.below HB4.out) hz2).row
        rw [HML.out] at HU
        clear hsp hbw hzr
        go_wp2_with fail
        refine (treeLoad_any s hs wr HSW.out).mono ?_
        rintro e w6 ⟨v6, l6, rfl, hown6, hsrt6, hb6⟩
        have h6 := hsrt6.uniq HSRT1.out
        have HR6 := hide hown6.row
        rw [h6] at HR6
        have hz6 := hb6.size
        have HB6 := hide hb6
        clear hown6 hsrt6 hb6 h6
        go_wp2_with fail
        refine (sameNodes_any w6.heap.size wr.heap.size v6 u (l.map (·.1)) w6 HLS.out.1 HLS.out.2 HR6.out (HU.out.below HB6.out) (by omega) (by omega)).mono ?_
        rintro e w7 ⟨rfl, hb7⟩
        have HB7 := hide hb7
        clear hb7
        go_wp2
        go_ret
        exact ⟨rfl, (HBW.out.trans (HB6.out.mono hzw)).trans (HB7.out.mono (by omega))⟩
end Go.Proofs.YtconbmfbokpklaaGreatDoor
