/- The walk of TreeWays. -/
import Derived.Test.YtconbmfbokpklaaGreatDoorGTree
import Derived.Test.YtconbmfbokpklaaGreatDoorWPlain
namespace Go.Proofs.YtconbmfbokpklaaGreatDoor
open Go.RowKit Go.Maps

set_option maxRecDepth 100000 in
set_option maxHeartbeats 4000000 in
theorem law_ways {A : Ads} (s : ByteArray) (w : World) (hs : s.size ≤ maxLen) (hS : Sent w.heap.size A w) :
    Calls Tryz.prog 5 #[.string s] w fun e w' => e = .returned (.bool true) ∧ Below w.heap.size w w' := by
  have HS := hide hS
  have HLIM := hide (loadD_lim s)
  have HT := hide (loadD_told s)
  clear hS
  go_enter Tryz.func5, Tryz.ntmps5
  go_wp2_with fail
  refine (treeLoad_any s hs w (unhide HS)).mono ?_
  rintro e w1 ⟨v, l, rfl, hown1, hsrt1, hb1⟩
  have HSRT1 := hide hsrt1
  have HB1 := hide hb1
  have HR1 := hide (hown1.row)
  have hz1 := hb1.size
  clear hown1 hsrt1 hb1
  go_wp2_with fail
  refine (refload_any s w1 hs).mono ?_
  rintro e w3 ⟨u, m, rfl, hown3, hsrt3, hb3⟩
  have hml := hsrt3.uniq HSRT1.out
  have HR3 := hide (hown3.row)
  rw [hml] at HR3
  have HR1' := hide (HR1.out.below hb3)
  have HB3 := hide hb3
  have hz3 := hb3.size
  have HLS := hide (HLIM.out.1.srt HSRT1.out)
  clear hb3 hown3 hsrt3 hml
  have HN := hide (fun w' => lawnum_any (loadD s).2.1 w' HLIM.out.2)
  have HN0 := hide (fun w' => lawnum_any 0 w' (by omega))
  generalize (loadD s).2.2 = pl at *
  obtain ⟨L, hL⟩ : ∃ L, l.map (·.1) = L := ⟨_, rfl⟩
  rw [hL] at HSRT1 HR1 HR1' HR3 HLS
  have HBW := hide (HB1.out.trans (HB3.out.mono hz1))
  have hll := HLS.out.1
  have HKL : Hid (0 < L.length → ∃ K, KInv (loadD s).1 K) := by
    intro hpos
    rcases HT.out with ⟨_, h, _⟩ | ⟨h0, _⟩
    · exact h
    · have := HSRT1.out.len
      rw [h0] at this
      simp at this
      rw [this] at hpos
      exact absurd hpos (by simp)
  clear HT HLIM hL HR1
  obtain ⟨a, cap, rfl⟩ := HR1'.out.form
  obtain ⟨a3, cap3, rfl⟩ := HR3.out.form
  generalize (loadD s).2.1 = er at *
  generalize (loadD s).1 = R at *
  go_wp2_with fail
  refine ((unhide HN) w3).mono ?_
  rintro e w5 ⟨rfl, hw5⟩
  rw [hw5]; clear hw5
  go_wp2
  go_loopw [9] (fun iv wr => ∃ i : Nat, 1 ≤ i ∧ (i ≤ L.length ∨ i = 1) ∧ iv = .int .i64 i ∧ Below w3.heap.size w3 wr) (fun iv _ => L.length + 1 - (intOf iv).toNat)
  case atStart => exact ⟨1, Nat.le_refl _, .inr rfl, rfl, Below.refl _ _⟩
  case round =>
    obtain ⟨i, hi1, hi2, rfl, hbr⟩ := hrel
    by_cases hlt : i < L.length
    · obtain ⟨K, hK⟩ := HKL.out (by omega)
      obtain ⟨x, hx⟩ : ∃ x, L[i]? = some x := ⟨_, List.getElem?_eq_getElem hlt⟩
      obtain ⟨g, rfl⟩ : ∃ g, a = some ⟨g, 0, none⟩ := by
        obtain ⟨g, _, _, _, rfl, _⟩ := HR1'.out.at hx
        exact ⟨g, rfl⟩
      obtain ⟨g3, ka, km, kc, rfl, hg3, hcap3, ⟨p0, p1, p2, p3, p4, p5, p6⟩, _⟩ := (HR3.out.below hbr).at hx
      have hKL2 : ∀ (i : Nat) (n : NodeD), L[i]? = some n → n.kids.length ≤ 1000 ∧ ∀ c ∈ n.kids, c < L.length := by
        intro i n hn
        refine ⟨HLS.out.2 i n hn, fun c hc => ?_⟩
        obtain ⟨q, hq, _, hp, _⟩ := HSRT1.out.back hn
        have := hK.kid_lt hq c (hp.mem_iff.1 hc)
        rw [HSRT1.out.len]
        exact this
      have hpl := path_of hK HSRT1.out
      obtain ⟨way, hway⟩ : ∃ way, K[i]? = some way := ⟨_, List.getElem?_eq_getElem (by rw [hpl.len]; exact hlt)⟩
      obtain ⟨ks, k0, kl, hch, hok, hwsz⟩ := way_chain hK HSRT1.out hlt hi1 hway
      obtain ⟨h1, hc0, hce⟩ := way_ends hok
      obtain ⟨b, hub, hbl, hpn, hch2, hok2, hnsz⟩ := name_chain hK HSRT1.out hx hi1
      obtain ⟨h12, hc02, hce2⟩ := way_ends hok2
      rw [hub] at p2
      have hzr := hbr.size
      have HWY := hide (way_any w1.heap.size (.slice (some ⟨g, 0, none⟩) L.length cap) L K i way wr hpl (by omega) hi1 hlt hway (by omega) (HR1'.out.below (hbr.mono hz3)) (by omega))
      have HF1 : Hid (∀ W, Below w3.heap.size w3 W → Calls Tryz.prog 16 #[.slice (some ⟨g, 0, none⟩) L.length cap, .int .i64 0, .string way, .bool false] W fun e w' => e = .returned (.tuple #[.int .i64 (i : Int), .int .i64 0]) ∧ Below W.heap.size W w') := by
        intro W hb
        have := wtfind_any w1.heap.size g cap L ks way W hKL2 hch (by rw [k0]; omega) h1 (by omega) hc0 hce (HR1'.out.below (hb.mono hz3)) (Nat.le_trans hz3 hb.size)
        rw [k0, kl] at this
        exact this
      have HF2 : Hid (∀ W, Below w3.heap.size w3 W → Calls Tryz.prog 16 #[.slice (some ⟨g, 0, none⟩) L.length cap, .int .i64 (b : Int), .string x.name, .bool false] W fun e w' => e = .returned (.tuple #[.int .i64 (i : Int), .int .i64 0]) ∧ Below W.heap.size W w') := by
        intro W hb
        have := wtfind_any w1.heap.size g cap L (fun j => if j = 0 then b else i) x.name W hKL2 hch2 hbl h12 (by omega) hc02 hce2 (HR1'.out.below (hb.mono hz3)) (Nat.le_trans hz3 hb.size)
        rw [hpn] at this
        exact this
      have HBR := hide hbr
      have HX := hide hx
      have HUB := hide hub
      have hiI : (i : Int) < (L.length : Int) := by omega
      clear hK hKL2 hpl hway k0 kl hch hok hwsz h1 hc0 hce hub hpn hch2 hok2 hnsz h12 hc02 hce2 hbr hx p0 p1 p2 p3 p4 p5 p6
      go_wp2_with fail
      refine (unhide HWY).mono ?_
      rintro e w6 ⟨rfl, hb6⟩
      have HB6 := hide (HBR.out.trans (hb6.mono hzr))
      clear hb6
      go_wp2_with fail
      refine ((unhide HF1) w6 HB6.out).mono ?_
      rintro e w7 ⟨rfl, hb7⟩
      have HB7 := hide (HB6.out.trans (hb7.mono HB6.out.size))
      clear hb7
      obtain ⟨_, _, _, _, e3, _, _, ⟨_, q1, q2, _⟩, _⟩ := (HR3.out.below HB7.out).at HX.out
      cases e3
      rw [HUB.out] at q2
      go_wp2_with fail
      go_region_with (go_at_call 16; refine ((unhide HF2) _ ?hb).mono ?_; (case hb => exact HB7.out.trans ⟨rfl, rfl, rfl, Nat.le_refl _, fun _ _ => rfl⟩); rintro e w8 ⟨rfl, hb8⟩)
      all_goals
        have HB8 := hide (HB7.out.trans ((show Below w3.heap.size w7 w7.drew from ⟨rfl, rfl, rfl, Nat.le_refl _, fun _ _ => rfl⟩).trans (hb8.mono HB7.out.size)))
        clear hb8
        go_wp2_with fail
        refine ((unhide HN0) w8).mono ?_
        rintro e w9 ⟨rfl, hw9⟩
        rw [hw9]; clear hw9
        go_wp2_with fail
        refine ((unhide HN0) w8).mono ?_
        rintro e w9 ⟨rfl, hw9⟩
        rw [hw9]; clear hw9
        go_wp2
        go_roundw
        case rel => exact ⟨i + 1, by omega, .inl (by omega), by go_num, HB8.out⟩
        case measure => simp [intOf]; omega
    · have HX := hide (HBW.out.trans (hbr.mono (by omega)))
      have hnlt : ¬ (i : Int) < (L.length : Int) := by omega
      clear hbr
      go_wp2
      go_ret
      exact ⟨rfl, HX.out⟩
end Go.Proofs.YtconbmfbokpklaaGreatDoor
