/- The walk of TreeSound. -/
import Derived.Test.YtconbmfbokpklaaGreatDoorGTree
import Derived.Test.YtconbmfbokpklaaGreatDoorSame
import Derived.Test.YtconbmfbokpklaaGreatDoorGNodes
import Derived.Test.YtconbmfbokpklaaGreatDoorGLine
namespace Go.Proofs.YtconbmfbokpklaaGreatDoor
open Go.RowKit Go.Maps
set_option maxRecDepth 100000 in
set_option maxHeartbeats 4000000 in
theorem law_sound {A : Ads} (s : ByteArray) (w : World) (hs : s.size ≤ maxLen) (hS : Sent w.heap.size A w) :
    Calls Tryz.prog 6 #[.string s] w fun e w' => e = .returned (.bool true) ∧ Below w.heap.size w w' := by
  have HS := hide hS
  have HLIM := hide (loadD_lim s)
  have HT := hide (loadD_told s)
  clear hS
  go_enter Tryz.func6, Tryz.ntmps6
  go_wp2_with fail
  refine (treeLoad_any s hs w (unhide HS)).mono ?_
  rintro e w1 ⟨v, l, rfl, hown1, hsrt1, hb1⟩
  have HSRT1 := hide hsrt1
  have HB1 := hide hb1
  have HR1 := hide (hown1.row)
  have hz1 := hb1.size
  clear hown1 hsrt1 hb1
  go_wp2_with fail
  refine (refload_any s w1 hs).mono ?_
  rintro e w3 ⟨u, m, rfl, _, _, hb3⟩
  have HB3 := hide hb3
  have hz3 := hb3.size
  have HLS := hide (HLIM.out.1.srt HSRT1.out)
  clear hb3
  have HN := hide (fun w' => lawnum_any (loadD s).2.1 w' HLIM.out.2)
  go_wp2_with fail
  refine ((unhide HN) w3).mono ?_
  rintro e w5 ⟨rfl, hw5⟩
  rw [hw5]; clear hw5
  rcases HT.out with ⟨h0, ⟨K, hK⟩, hsum⟩ | ⟨h0, hne⟩
  · have HSO := hide (sound_of hK hsum HSRT1.out)
    rw [h0]
    clear hK hsum
    have HROW := hide (HR1.out.below HB3.out)
    have HBW := hide (HB1.out.trans (HB3.out.mono hz1))
    clear HSRT1 HR1 HT HLIM HN h0
    generalize (loadD s).2.2 = pl at *
    obtain ⟨L, hL⟩ : ∃ L, l.map (·.1) = L := ⟨_, rfl⟩
    rw [hL] at HSO HLS HROW
    clear hL
    obtain ⟨a, cap, rfl⟩ := HROW.out.form
    have hpos := HSO.out.pos
    have hll := HLS.out.1
    have hsum := HSO.out.sum
    have HSUM := hide hsum
    clear hsum
    go_wp2
    go_loopw [9, 10] (fun cv iv wr => ∃ i n : Nat, i ≤ L.length ∧ iv = .int .i64 i ∧ cv = .int .i64 (cnt L i : Nat) ∧ wr = w3.drewN n) (fun _ iv _ => L.length - (intOf iv).toNat)
    case atStart => exact ⟨0, 0, Nat.zero_le _, rfl, rfl, rfl⟩
    case round =>
      obtain ⟨i, n, hi, rfl, rfl, rfl⟩ := hrel
      by_cases hlt : i < L.length
      · obtain ⟨x, hx⟩ : ∃ x, L[i]? = some x := ⟨_, List.getElem?_eq_getElem hlt⟩
        have HX := hide hx
        have HDIR := hide (HSO.out.dir i x hx)
        obtain ⟨ga, ka, km, kc, rfl, hga, hca, ⟨p0, p1, p2, p3, p4, p5, p6⟩, hra⟩ := HROW.out.at hx
        clear hx p1 p2 p3 p4 p5
        obtain ⟨ka', kc', hke, hkx⟩ := hra.form
        cases hke
        have HKX := hide hkx
        have hkl := HLS.out.2 i x HX.out
        clear hra hkx
        have hil : (i : Int) < (L.length : Int) := by omega
        have hD : x.kids.length = 0 ∨ (0 < x.kids.length ∧ x.kind = 100) ∨ (0 < x.kids.length ∧ x.kind = 120) := by
          by_cases h : x.kids = []
          · exact .inl (by rw [h]; rfl)
          · have hp : 0 < x.kids.length := by cases e : x.kids with
              | nil => exact absurd e h
              | cons _ _ => simp
            rcases HDIR.out h with h1 | h1
            · exact .inr (.inl ⟨hp, h1⟩)
            · exact .inr (.inr ⟨hp, h1⟩)
        rcases hD with hD | ⟨hD, hkd⟩ | ⟨hD, hkd⟩
        all_goals (try rw [hkd] at p0)
        all_goals (try clear hkd)
        all_goals
          have hcb : cnt L i + x.kids.length ≤ 1000 := by
            have h1 := cnt_succ HX.out
            have h2 := cnt_le (L := L) (i := i + 1)
            have h3 := HSUM.out
            omega
          go_wp2
          go_loopw [9, 11] (fun cv kv wr => ∃ k n : Nat, k ≤ x.kids.length ∧ kv = .int .i64 k ∧ cv = .int .i64 ((cnt L i + k : Nat) : Int) ∧ wr = w3.drewN n) (fun _ kv _ => x.kids.length - (intOf kv).toNat)
          case atStart => exact ⟨0, _, Nat.zero_le _, rfl, rfl, rfl⟩
          case round =>
            obtain ⟨k, n2, hk, rfl, rfl, rfl⟩ := hrel
            by_cases hkt : k < x.kids.length
            · first
              | (exfalso; omega)
              | (obtain ⟨c, hc⟩ : ∃ c, x.kids[k]? = some c := ⟨_, List.getElem?_eq_getElem hkt⟩
                 obtain ⟨gk, rfl, hkc, hcell⟩ := HKX.out k c hc
                 obtain ⟨hic, y, hy, hup⟩ := HSO.out.kid i x HX.out c (List.mem_of_getElem? hc)
                 have hcl : c < L.length := (List.getElem?_eq_some_iff.1 hy).1
                 obtain ⟨gy, _, _, _, hge, _, _, ⟨_, q1, q2, _, _, _, _⟩, _⟩ := HROW.out.at hy
                 cases hge
                 rw [hup] at q2
                 have hcI : (c : Int) < (L.length : Int) := by omega
                 have hkI : (k : Int) < (x.kids.length : Int) := by omega
                 have hicI : (i : Int) < (c : Int) := by omega
                 by_cases hk0 : k = 0
                 · subst hk0
                   clear hc hy hup
                   go_wp2
                   go_quiet (fail)
                   go_wp2
                   go_roundw
                   case rel => exact ⟨1, _, by omega, rfl, by go_num, rfl⟩
                   case measure => simp [intOf]; omega
                 · obtain ⟨j, rfl⟩ : ∃ j, k = j + 1 := ⟨k - 1, by omega⟩
                   obtain ⟨d, hd⟩ : ∃ d, x.kids[j]? = some d := ⟨_, List.getElem?_eq_getElem (by omega)⟩
                   obtain ⟨gk2, hge2, _, hcell2⟩ := HKX.out j d hd
                   cases hge2
                   obtain ⟨_, z, hz, _⟩ := HSO.out.kid i x HX.out d (List.mem_of_getElem? hd)
                   have hdl : d < L.length := (List.getElem?_eq_some_iff.1 hz).1
                   have hdI : (d : Int) < (L.length : Int) := by omega
                   obtain ⟨gz, _, _, _, hge3, _, _, ⟨_, z1, _, _, _, _, _⟩, _⟩ := HROW.out.at hz
                   cases hge3
                   have hless := HSO.out.rise i x HX.out j d c hd hc z y hz hy
                   have hl1 : Op.bytesLess y.name.toList z.name.toList = false := by
                     cases e : Op.bytesLess y.name.toList z.name.toList with
                     | false => rfl
                     | true =>
                       have := less_trans _ _ _ hless e
                       rw [less_irr] at this
                       cases this
                   have hl2 : (y.name.toList == z.name.toList) = false := by
                     cases e : (y.name.toList == z.name.toList) with
                     | false => rfl
                     | true =>
                       rw [beq_iff_eq.1 e, less_irr] at hless
                       cases hless
                   clear hc hy hup hd hz hless
                   go_wp2
                   go_quiet (fail)
                   go_wp2
                   go_roundw
                   case rel => exact ⟨j + 2, _, by omega, by go_num, by go_num, rfl⟩
                   case measure => simp [intOf]; omega)
            · obtain rfl : k = x.kids.length := by omega
              go_wp2
              go_roundw
              case rel => exact ⟨i + 1, n2, by omega, by go_num, by rw [cnt_succ HX.out], rfl⟩
              case measure => simp [intOf]; omega
      · obtain rfl : i = L.length := by omega
        obtain ⟨x, hx⟩ : ∃ x, L[0]? = some x := ⟨_, List.getElem?_eq_getElem hpos⟩
        obtain ⟨hup, hnm⟩ := HSO.out.root x hx
        obtain ⟨ga, ka, km, kc, rfl, hga, hca, ⟨p0, p1, p2, p3, p4, p5, p6⟩, hra⟩ := HROW.out.at hx
        have hcn : cnt L L.length = L.length - 1 := by rw [cnt_all]; have := HSUM.out; omega
        rw [hcn]
        rw [hup] at p2
        rw [hnm] at p1
        have hE : (bs []).toList.isEmpty = true := by rw [ByteArray.toList_eq]; rfl
        have hcn2 : ((L.length - 1 : Nat) : Int) = (L.length : Int) - 1 := by omega
        rw [hcn2]
        clear hx hup hnm hcn hra p0 p3 p4 p5 p6 hcn2
        have HD := hide (below_drewN HBW.out n)
        go_wp2
        go_ret
        exact ⟨rfl, HD.out⟩
  · have hl0 : l = [] := by
      have := HSRT1.out.len
      rw [h0] at this
      simpa using this
    subst hl0
    obtain ⟨a, cap, rfl⟩ := HR1.out.form
    have HBW := hide (HB1.out.trans (HB3.out.mono hz1))
    clear h0 HLIM HT HSRT1
    generalize (loadD s).2.1 = er at *
    generalize (loadD s).2.2 = pl at *
    go_wp2_with fail
    refine ((unhide HN) w3).mono ?_
    rintro e w6 ⟨rfl, hw6⟩
    rw [hw6]; clear hw6
    go_wp2
    go_ret
    exact ⟨rfl, HBW.out⟩
end Go.Proofs.YtconbmfbokpklaaGreatDoor
