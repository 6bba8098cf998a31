import Derived.Test.YtfemboojdablhaaGreatDoorMi43
namespace Go.Proofs.YtfemboojdablhaaGreatDoor.Tre
open Go.RowKit Go.Shelf
theorem snUp {C C' : Nat} {a6 a2 a4 : Addr} {W : World} (h : Sn C a6 a2 a4 W) (hC : C ≤ C') : Sn C' a6 a2 a4 W :=
  ⟨h.c0, h.c2, h.c3, ⟨Nat.lt_of_lt_of_le h.p6.1 hC, h.p6.2⟩, ⟨Nat.lt_of_lt_of_le h.p2.1 hC, h.p2.2⟩, ⟨Nat.lt_of_lt_of_le h.p4.1 hC, h.p4.2⟩, h.n62, h.n64⟩
theorem VisR.filter {L : List NodeD} {K : List ByteArray} {l : List Vis} (h : VisR L K l) (p : Vis → Bool) : VisR L K (l.filter p) := ⟨fun v hv => h.at_ v (List.mem_filter.1 hv).1⟩
theorem lines_test {L : List NodeD} {K : List ByteArray} (h : KInv L K) {l : List Vis} (hl : VisR L K l) (test : Nat → Bool) {k : Nat} (hk : k < L.length) : linesD (bs (outW 0 test l)) (wayB K k) = if test k then linesD (outS l) (wayB K k) else 0 := by
  have h1 : linesD (bs (outW 0 test l)) (wayB K k) = cntV k (l.filter (selV 0 test)) := lines_vis h (fun v hv => by obtain ⟨a, _, b⟩ := (hl.filter _).at_ v hv; exact ⟨a, b⟩) hk
  have h2 : linesD (outS l) (wayB K k) = cntV k l := lines_vis h (fun v hv => by obtain ⟨a, _, b⟩ := hl.at_ v hv; exact ⟨a, b⟩) hk
  rw [h1, h2]
  unfold cntV
  rw [List.countP_filter]
  cases ht : test k with
  | true =>
    rw [if_pos rfl]
    refine List.countP_congr (fun v hv => ?_)
    obtain ⟨_, e2, _⟩ := hl.at_ v hv
    have hd : (0 : Int) ≤ v.depth := by rw [e2]; exact dep_pos _ _
    unfold selV
    rw [Bool.and_eq_true, Bool.and_eq_true, decide_eq_true_eq, decide_eq_true_eq]
    constructor
    · exact fun q => q.1
    · exact fun q => ⟨q, hd, by rw [q]; exact ht⟩
  | false =>
    rw [if_neg (by decide), List.countP_eq_zero]
    intro v hv
    unfold selV
    rw [Bool.and_eq_true, Bool.and_eq_true, decide_eq_true_eq]
    rintro ⟨q, _, q2⟩
    rw [q, ht] at q2
    cases q2
theorem outW_sub {L : List NodeD} {K : List ByteArray} (h : KInv L K) {l : List Vis} (hl : VisR L K l) (test : Nat → Bool) : (outW 0 test l).length ≤ 12301 * l.length := by
  have := out_len h (hl.filter (selV 0 test))
  have h2 := List.length_filter_le (selV 0 test) l
  exact Nat.le_trans this (Nat.mul_le_mul_left _ h2)
set_option maxRecDepth 100000 in
set_option maxHeartbeats 8000000 in
theorem ignlaw_any (a6 a2 a4 : Addr) (s : ByteArray) (w : World) (hs : s.size ≤ maxLen) (hG : GW w) (hS : Sn w.heap.size a6 a2 a4 w) :
    Calls Tryz.prog 6 #[.string s] w fun e w' => e = .returned (.bool true) ∧ Below w.heap.size w w' := by
  have HLO := hide (refload_any s w hs)
  have HGS := hide (⟨hG, hS⟩ : _ ∧ _)
  clear hs hG hS
  go_enter Tryz.func6, Tryz.ntmps6
  go_wp2_with fail
  refine (unhide HLO).mono ?_
  rintro e w1 ⟨v, lk, rfl, hown, hsrt, hb1⟩
  obtain ⟨L, hL⟩ : ∃ L, lk.map (·.1) = L := ⟨_, rfl⟩
  have hrow := hown.row
  rw [hL] at hsrt hrow
  have htold := loadD_told s
  have hTO : TOK L := tok_load hsrt
  obtain ⟨er, her⟩ : ∃ er, (loadD s).2.1 = er := ⟨_, rfl⟩
  obtain ⟨pl, hpl⟩ : ∃ pl, (loadD s).2.2 = pl := ⟨_, rfl⟩
  rcases htold with ⟨he, ⟨K, hK0⟩, _⟩ | ⟨_, he⟩
  · rw [he] at her
    subst her
    rw [he, hpl]
    have hK : KInv L K := kinv_srt hK0 hsrt
    have hlen := hK.lim
    obtain ⟨va, vc, rfl⟩ := hrow.form
    have HNO := hide (nodes_any w1.heap.size _ L w1 hlen (fun i n h => Nat.le_trans (hK.klen i n h) (by omega)) hrow (Nat.le_refl _))
    have HK := hide hK
    have HT := hide hTO
    have HROW := hide hrow
    have HB1 := hide hb1
    have hpos := hK.pos
    clear hown hsrt hK0 hK hrow hb1 hL HLO he hpl hTO
    go_wp2_with fail
    refine (unhide HNO).mono ?_
    rintro e w2 ⟨v2, l2, rfl, hown2, hmap, hb2⟩
    have hrow2 := hown2.row
    rw [hmap] at hrow2
    obtain ⟨g, cap, rfl⟩ : ∃ g cap, v2 = .slice (some ⟨g, 0, none⟩) L.length cap := by
      rcases hrow2 with ⟨_, e⟩ | ⟨g, cap, e, _⟩
      · rw [e] at hpos; exact absurd hpos (by simp)
      · exact ⟨g, cap, e⟩
    obtain ⟨W3, hW3⟩ : ∃ W3, (w2.alloc (.cells #[.bool false, .bool false, .int .i64 0, .int .i64 1000, .int .i64 1000] 37)).alloc (.cells #[.string ⟨#[47]⟩] 9) = W3 := ⟨_, rfl⟩
    have hb3 : Below w2.heap.size w2 W3 := by rw [← hW3]; exact ((Below.refl _ _).alloc (Nat.le_refl _) _).alloc (by simp) _
    have ho3 : W3.heap[w2.heap.size]? = some (.cells #[.bool false, .bool false, .int .i64 0, .int .i64 1000, .int .i64 1000] 37 (0, 0)) := by rw [← hW3, Below.heap_alloc _ _ _ (by simp)]; exact World.alloc_heap_new w2 _
    have hg3 : W3.heap[w2.heap.size + 1]? = some (.cells #[.string ⟨#[47]⟩] 9 (0, 0)) := by
      rw [← hW3]
      have := World.alloc_heap_new (w2.alloc (.cells #[.bool false, .bool false, .int .i64 0, .int .i64 1000, .int .i64 1000] 37)) (.cells #[.string ⟨#[47]⟩] 9)
      simpa using this
    have o0 : W3.cell? ⟨w2.heap.size, 0, none⟩ = some (.bool false) := by rw [Lib.cell_of_heap ho3]; rfl
    have o1 : W3.cell? ⟨w2.heap.size, 1, none⟩ = some (.bool false) := by rw [Lib.cell_of_heap ho3]; rfl
    have o2 : W3.cell? ⟨w2.heap.size, 2, none⟩ = some (.int .i64 0) := by rw [Lib.cell_of_heap ho3]; rfl
    have o3 : W3.cell? ⟨w2.heap.size, 3, none⟩ = some (.int .i64 1000) := by rw [Lib.cell_of_heap ho3]; rfl
    have o4 : W3.cell? ⟨w2.heap.size, 4, none⟩ = some (.int .i64 1000) := by rw [Lib.cell_of_heap ho3]; rfl
    have ho := once_r HK.out false
    have hvl : (visG L false 1000 (L.length + 1) 0 ⟨#[47]⟩ 0).length ≤ 1000 := by have := ho.2.2.2.2.1; omega
    have hr3 := node_mono (hrow2.below hb3) hb3.size
    have HWK := hide (walk_true L HK.out g cap (w2.heap.size + 1) false 0 1000 W3 (by decide) (by decide) hr3 hg3 hvl)
    have hbw3 : Below w.heap.size w W3 := (HB1.out.trans (hb2.mono HB1.out.size)).trans (hb3.mono (Nat.le_trans HB1.out.size hb2.size))
    have hrw3 : NodeRow w1.heap.size W3 (.slice va L.length vc) L := HROW.out.below (hb2.trans (hb3.mono hb2.size))
    obtain ⟨ob, hob⟩ : ∃ ob, w2.heap.size = ob := ⟨_, rfl⟩
    rw [hob] at o0 o1 o2 o3 o4 ho3 HWK
    have hz13 : w1.heap.size ≤ W3.heap.size := Nat.le_trans hb2.size hb3.size
    have HP := hide (⟨hr3, hbw3, hrw3, ho3, hvl⟩ : _ ∧ _ ∧ _ ∧ _ ∧ _)
    have HW3 := hide hW3
    have HO := hide ho
    clear hown2 hmap hrow2 hb2 hb3 hg3 ho3 ho hW3 HNO hr3 hbw3 hrw3 hvl HROW
    go_wp2_with (rw [HW3.out])
    refine HWK.out.mono ?_
    rintro e w4 ⟨ta, tn, tc, st, rfl, hb4⟩
    obtain ⟨l, hl⟩ : ∃ l, visG L false 1000 (L.length + 1) 0 ⟨#[47]⟩ 0 = l := ⟨_, rfl⟩
    obtain ⟨hr3, hbw3, hrw3, ho3, hvl⟩ := HP.out
    rw [hl] at hvl ⊢
    have ho := HO.out
    simp only [hl] at ho
    have hVR := ho.2.2.2.2.2
    rw [outW_all (fun v hv => by rw [(hVR.at_ v hv).2.1]; exact dep_pos _ _)]
    obtain ⟨x, hx⟩ : ∃ x, outS l = x := ⟨_, rfl⟩
    rw [show (⟨(outL l).toArray⟩ : ByteArray) = x from hx]
    have hl4 : 12301 * l.length ≤ 12301 * 1000 := Nat.mul_le_mul_left _ (by omega)
    have hxs : x.size ≤ 1000000000 := by
      have h1 := out_len HK.out hVR
      have h3 : x.size = (outL l).length := by rw [← hx, ← len_data]; rfl
      omega
    obtain ⟨W5, hW5⟩ : ∃ W5, (w4.alloc (.cells #[.string x, .slice ta tn tc, .int .i64 st] 27)).alloc (.cells #[.string ⟨#[47]⟩] 9) = W5 := ⟨_, rfl⟩
    have hb5 : Below w4.heap.size w4 W5 := by rw [← hW5]; exact ((Below.refl _ _).alloc (Nat.le_refl _) _).alloc (by simp) _
    have hb35 : Below W3.heap.size W3 W5 := hb4.trans (hb5.mono hb4.size)
    have hx5 : W5.heap[w4.heap.size]? = some (.cells #[.string x, .slice ta tn tc, .int .i64 st] 27 (0, 0)) := by rw [← hW5, Below.heap_alloc _ _ _ (by simp)]; exact World.alloc_heap_new w4 _
    have hg5 : W5.heap[w4.heap.size + 1]? = some (.cells #[.string ⟨#[47]⟩] 9 (0, 0)) := by
      rw [← hW5]
      have := World.alloc_heap_new (w4.alloc (.cells #[.string x, .slice ta tn tc, .int .i64 st] 27)) (.cells #[.string ⟨#[47]⟩] 9)
      simpa using this
    have ho5 : W5.heap[ob]? = some (.cells #[.bool false, .bool false, .int .i64 0, .int .i64 1000, .int .i64 1000] 37 (0, 0)) := (hb35.block ob (Array.getElem?_eq_some_iff.1 ho3).1).trans ho3
    clear o0 o1 o2 o3 o4
    have o0 : W5.cell? ⟨ob, 0, none⟩ = some (.bool false) := by rw [Lib.cell_of_heap ho5]; rfl
    have o1 : W5.cell? ⟨ob, 1, none⟩ = some (.bool false) := by rw [Lib.cell_of_heap ho5]; rfl
    have o2 : W5.cell? ⟨ob, 2, none⟩ = some (.int .i64 0) := by rw [Lib.cell_of_heap ho5]; rfl
    have o3 : W5.cell? ⟨ob, 3, none⟩ = some (.int .i64 1000) := by rw [Lib.cell_of_heap ho5]; rfl
    have o4 : W5.cell? ⟨ob, 4, none⟩ = some (.int .i64 1000) := by rw [Lib.cell_of_heap ho5]; rfl
    have hr5 := node_mono (hr3.below hb35) hb35.size
    have hbw5 : Below w.heap.size w W5 := hbw3.trans (hb35.mono hbw3.size)
    have h14 : 14 ≤ w.heap.size := HGS.out.1.big
    have hG5 := HGS.out.1.below hbw5
    have hS5 := snUp (HGS.out.2.below hbw5 h14) hbw5.size
    have HWI := walk_ign a6 a2 a4 L HK.out HT.out g cap (w4.heap.size + 1) false 0 1000 W5 (by decide) (by decide) hG5 hS5 hr5 hg5 (by rw [hl]; exact hvl)
    rw [hl] at HWI
    obtain ⟨ba, hba⟩ : ∃ ba, w4.heap.size = ba := ⟨_, rfl⟩
    rw [hba] at HWI hx5
    have HWI := hide HWI
    have HX := hide (⟨ho, hVR, hx⟩ : _ ∧ _ ∧ _)
    have HQ := hide (⟨hr5, hbw5, hrw3.below (hb35.mono hz13), hx5⟩ : _ ∧ _ ∧ _ ∧ _)
    have hz15 : w1.heap.size ≤ W5.heap.size := Nat.le_trans hz13 hb35.size
    have HW5 := hide hW5
    clear hb4 hb5 hb35 hg5 ho5 hr5 hbw5 hG5 hS5 hr3 hbw3 hrw3 ho3 ho hx hW5 hx5 hob HWK HP HO HW3
    go_wp2_with (rw [HW5.out])
    go_wp2_with fail
    refine HWI.out.mono ?_
    rintro e w6 ⟨ua, un, uc, su, rfl, hb6⟩
    obtain ⟨y, hy⟩ : ∃ y, bs (outW 0 (ignD L) l) = y := ⟨_, rfl⟩
    rw [show (⟨(outW 0 (ignD L) l).toArray⟩ : ByteArray) = y from hy]
    obtain ⟨hr5, hbw5, hrw5, hx5⟩ := HQ.out
    have hys : y.size ≤ 1000000000 := by
      have h1 := outW_sub HK.out hVR (ignD L)
      have h3 : y.size = (outW 0 (ignD L) l).length := by rw [← hy, ← len_data]; rfl
      omega
    obtain ⟨W7, hW7⟩ : ∃ W7, w6.alloc (.cells #[.string y, .slice ua un uc, .int .i64 su] 27) = W7 := ⟨_, rfl⟩
    have hb7 : Below w6.heap.size w6 W7 := by rw [← hW7]; exact (Below.refl _ _).alloc (Nat.le_refl _) _
    have hb57 : Below W5.heap.size W5 W7 := hb6.trans (hb7.mono hb6.size)
    have hy7 : W7.heap[w6.heap.size]? = some (.cells #[.string y, .slice ua un uc, .int .i64 su] 27 (0, 0)) := by rw [← hW7]; exact World.alloc_heap_new w6 _
    have hx7 : W7.heap[ba]? = some (.cells #[.string x, .slice ta tn tc, .int .i64 st] 27 (0, 0)) := (hb57.block ba (Array.getElem?_eq_some_iff.1 hx5).1).trans hx5
    obtain ⟨bb, hbb⟩ : ∃ bb, w6.heap.size = bb := ⟨_, rfl⟩
    rw [hbb] at hy7
    have hbw7 : Below w.heap.size w W7 := hbw5.trans (hb57.mono hbw5.size)
    have hz57 : W5.heap.size ≤ W7.heap.size := hb57.size
    have HR7 := hide (node_mono (hr5.below hb57) hb57.size)
    have HM7 := hide (hrw5.below (hb57.mono hz15))
    have HBW := hide hbw7
    have HY := hide hy
    have HBL := hide (⟨hx7, hy7⟩ : _ ∧ _)
    have HW7 := hide hW7
    clear hb6 hb7 hb57 hr5 hbw5 hrw5 hx5 hx7 hy7 hbw7 hy hW7 HWI HQ HW5 o0 o1 o2 o3 o4
    go_wp2_with (rw [HW7.out])
    go_wp2_with fail
    refine (num_any 0 _).mono ?_
    rintro e w8 ⟨rfl, hw8⟩
    rw [hw8]
    clear hw8 w8
    go_wp2_with fail
    refine (num_any 0 _).mono ?_
    rintro e w8 ⟨rfl, hw8⟩
    rw [hw8]
    clear hw8 w8 hbb hba
    go_wp2
    go_loopw [12] (fun iv wr => ∃ k : Nat, iv = .int .i64 (k : Int) ∧ 1 ≤ k ∧ k ≤ L.length ∧ Below W7.heap.size W7 wr) (fun iv _ => L.length - (intOf iv).toNat)
    case atStart => exact ⟨1, rfl, Nat.le_refl _, hpos, Below.refl _ _⟩
    case round =>
      obtain ⟨k, rfl, hk1, hk2, hbr⟩ := hrel
      have hxr : wr.heap[ba]? = some (.cells #[.string x, .slice ta tn tc, .int .i64 st] 27 (0, 0)) := (hbr.block ba (Array.getElem?_eq_some_iff.1 HBL.out.1).1).trans HBL.out.1
      have hyr : wr.heap[bb]? = some (.cells #[.string y, .slice ua un uc, .int .i64 su] 27 (0, 0)) := (hbr.block bb (Array.getElem?_eq_some_iff.1 HBL.out.2).1).trans HBL.out.2
      by_cases hlt : k < L.length
      · have hkI : (k : Int) < (L.length : Int) := by omega
        obtain ⟨nd, hnd⟩ : ∃ nd, L[k]? = some nd := ⟨_, List.getElem?_eq_getElem hlt⟩
        obtain ⟨wy, a, hwy, _, _, hup, hak, _⟩ := HK.out.node k nd hnd (by omega)
        have hwb : (⟨#[47]⟩ : ByteArray) ++ wy = wayB K k := by
          unfold wayB
          rw [hwy]
          exact bs_app [47] wy.data.toList
        have hws : wy.size ≤ 12300 := by
          have := way_len HK.out hlt
          rw [← hwb] at this
          simp only [ByteArray.data_append, Array.toList_append, List.length_append] at this
          rw [← len_data]
          omega
        have hzM : w1.heap.size ≤ W7.heap.size := Nat.le_trans hz15 hz57
        have hWAY := refway_any w1.heap.size _ L K k wy wr (path_k HK.out) hlen (by omega) hlt hwy (HM7.out.below (hbr.mono hzM))
        obtain ⟨wk, hwk⟩ : ∃ wk, wayB K k = wk := ⟨_, rfl⟩
        rw [hwk] at hwb
        have hbw := HBW.out.trans (hbr.mono HBW.out.size)
        have hIG := ignored_any a6 a2 a4 W7.heap.size g cap L HT.out k hlt wr (HGS.out.1.below hbw) (snUp (HGS.out.2.below hbw h14) HBW.out.size) (Nat.le_trans h14 HBW.out.size) (HR7.out.below hbr) hbr.size
        have hlx := lines_any x wk
        have hly : linesD y wk = if ignD L k then linesD x wk else 0 := by
          have := lines_test HK.out hVR (ignD L) hlt
          rw [HY.out, hwk, HX.out.2.2] at this
          exact this
        have hlb : linesD x wk ≤ 1 := by
          have h1 := HX.out.1.2.1 k hlt
          rw [HX.out.2.2, hwk] at h1
          rw [h1]
          exact openD_le L k k
        have HLY := hide hly
        have HLX := hide hlb
        have HWA := hide hWAY
        have HIG := hide hIG
        have HBR := hide hbr
        have HXR := hide (⟨hxr, hyr⟩ : _ ∧ _)
        have HWB := hide hwb
        clear hnd hwy hup hwb hWAY hIG hlx hly hlb hbr hxr hyr hbw
        go_wp2_with fail
        refine HWA.out.mono ?_
        rintro e w8 ⟨rfl, hw8⟩
        rw [hw8]
        clear hw8 w8 HWA
        have hwb := HWB.out
        go_wp2_with fail
        refine HIG.out.mono ?_
        rintro e w9 ⟨rfl, hb9⟩
        have hbr9 := HBR.out.trans (hb9.mono HBR.out.size)
        have hx9 : w9.heap[ba]? = _ := (hb9.block ba (Array.getElem?_eq_some_iff.1 HXR.out.1).1).trans HXR.out.1
        have hy9 : w9.heap[bb]? = _ := (hb9.block bb (Array.getElem?_eq_some_iff.1 HXR.out.2).1).trans HXR.out.2
        have cx : w9.cell? ⟨ba, 0, none⟩ = some (.string x) := by rw [Lib.cell_of_heap hx9]; rfl
        have cy : w9.cell? ⟨bb, 0, none⟩ = some (.string y) := by rw [Lib.cell_of_heap hy9]; rfl
        have HB9 := hide hbr9
        have HLI := hide (lines_any x wk w9 (by omega))
        have HLJ := hide (lines_any y wk w9 (by omega))
        clear hb9 hbr9 hx9 hy9 HIG HBR HXR
        cases hig : ignD L k with
        | true =>
          have hyx : linesD y wk = linesD x wk := by rw [HLY.out, hig]; rfl
          obtain ⟨z, hz⟩ : ∃ z, linesD x wk = z := ⟨_, rfl⟩
          have hz1 : z ≤ 1 := by rw [← hz]; exact HLX.out
          have hzI : (z : Int) ≤ 1 := by omega
          have hbz : ((z : Int) == (z : Int)) = true := by simp
          go_wp2_with fail
          refine HLI.out.mono ?_
          rintro e w8 ⟨rfl, hw8⟩
          rw [hw8, hz]
          clear hw8 w8
          go_wp2_with fail
          refine HLJ.out.mono ?_
          rintro e w8 ⟨rfl, hw8⟩
          rw [hw8, hyx, hz]
          clear hw8 w8
          go_wp2
          go_roundw
          case rel => exact ⟨k + 1, by go_num, by omega, by omega, HB9.out⟩
          case measure => simp [intOf]; omega
        | false =>
          have hyx : linesD y wk = 0 := by rw [HLY.out, hig]; rfl
          go_wp2_with fail
          refine HLJ.out.mono ?_
          rintro e w8 ⟨rfl, hw8⟩
          rw [hw8, hyx]
          clear hw8 w8
          go_wp2
          go_roundw
          case rel => exact ⟨k + 1, by go_num, by omega, by omega, HB9.out⟩
          case measure => simp [intOf]; omega
      · have hkI : ¬ ((k : Int) < (L.length : Int)) := by omega
        have cx : wr.cell? ⟨ba, 0, none⟩ = some (.string x) := by rw [Lib.cell_of_heap hxr]; rfl
        have cy : wr.cell? ⟨bb, 0, none⟩ = some (.string y) := by rw [Lib.cell_of_heap hyr]; rfl
        have hx1 : linesD x ⟨#[47]⟩ = 1 := by rw [← HX.out.2.2]; exact HX.out.1.1
        have hy0 : linesD y ⟨#[47]⟩ = 0 := by
          have := lines_test HK.out hVR (ignD L) hpos
          rw [HY.out, ign_root HT.out, (way0 HK.out).1] at this
          exact this
        have HLI := lines_any x ⟨#[47]⟩ wr (by omega)
        have HLJ := lines_any y ⟨#[47]⟩ wr (by omega)
        rw [hx1] at HLI
        rw [hy0] at HLJ
        have HLI := hide HLI
        have HLJ := hide HLJ
        have HB9 := hide (HBW.out.trans (hbr.mono HBW.out.size))
        clear hxr hyr hbr hx1 hy0
        go_wp2_with fail
        refine HLJ.out.mono ?_
        rintro e w8 ⟨rfl, hw8⟩
        rw [hw8]
        clear hw8 w8
        go_wp2_with fail
        refine HLI.out.mono ?_
        rintro e w8 ⟨rfl, hw8⟩
        rw [hw8]
        clear hw8 w8
        go_wp2
        go_ret
        exact ⟨rfl, HB9.out⟩
  · have hne : (er == 0) = false := by rw [beq_eq_false_iff_ne, ← her]; exact he
    rw [her, hpl]
    have HB1 := hide hb1
    obtain ⟨va, vc, rfl⟩ := hrow.form
    clear hown hsrt hrow hb1 hL HLO he hpl her
    go_wp2
    go_ret
    exact ⟨rfl, HB1.out⟩
end Go.Proofs.YtfemboojdablhaaGreatDoor.Tre
