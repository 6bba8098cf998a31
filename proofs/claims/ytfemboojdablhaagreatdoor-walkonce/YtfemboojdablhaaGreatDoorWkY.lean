/- Walk: the law WalkOnce, its walk. -/
import Derived.Test.YtfemboojdablhaaGreatDoorWkX
namespace Go.Proofs.YtfemboojdablhaaGreatDoor.Tre
open Go.RowKit Go.Shelf

set_option maxRecDepth 100000 in
set_option maxHeartbeats 8000000 in
theorem once_any (s : ByteArray) (deep : Bool) (w : World) (hs : s.size ≤ maxLen) :
    Calls Tryz.prog 3 #[.string s, .bool deep] w fun e w' => e = .returned (.bool true) ∧ Below w.heap.size w w' := by
  have HLO := hide (refload_any s w hs)
  clear hs
  go_enter Tryz.func3, Tryz.ntmps3
  go_wp2_with fail
  refine (unhide HLO).mono ?_
  rintro e w1 ⟨v, lk, rfl, hown, hsrt, hb1⟩
  obtain ⟨L, hL⟩ : ∃ L, lk.map (·.1) = L := ⟨_, rfl⟩
  have hrow := hown.row
  rw [hL] at hsrt hrow
  have htold := loadD_told s
  obtain ⟨er, her⟩ : ∃ er, (loadD s).2.1 = er := ⟨_, rfl⟩
  obtain ⟨pl, hpl⟩ : ∃ pl, (loadD s).2.2 = pl := ⟨_, rfl⟩
  rcases htold with ⟨he, ⟨K, hK0⟩, _⟩ | ⟨_, he⟩
  · rw [he] at her
    subst her
    rw [he, hpl]
    have hK : KInv L K := kinv_srt hK0 hsrt
    have hlen := hK.lim
    obtain ⟨va, vc, rfl⟩ := hrow.form
    have HNO := hide (nodes_any w1.heap.size _ L w1 hlen (fun i n h => Nat.le_trans (hK.klen i n h) (by omega)) hrow (Nat.le_refl _))
    have HK := hide hK
    have HROW := hide hrow
    have HB1 := hide hb1
    have hpos := hK.pos
    clear hown hsrt hK0 hK hrow hb1 hL HLO he hpl
    go_wp2_with fail
    refine (unhide HNO).mono ?_
    rintro e w2 ⟨v2, l2, rfl, hown2, hmap, hb2⟩
    have hrow2 := hown2.row
    rw [hmap] at hrow2
    obtain ⟨g, cap, rfl⟩ : ∃ g cap, v2 = .slice (some ⟨g, 0, none⟩) L.length cap := by
      rcases hrow2 with ⟨_, e⟩ | ⟨g, cap, e, _⟩
      · rw [e] at hpos; exact absurd hpos (by simp)
      · exact ⟨g, cap, e⟩
    obtain ⟨W3, hW3⟩ : ∃ W3, w2.alloc (.cells #[.string ⟨#[47]⟩] 9) = W3 := ⟨_, rfl⟩
    have hb3 : Below w2.heap.size w2 W3 := by rw [← hW3]; exact (Below.refl _ _).alloc (Nat.le_refl _) _
    have hg3 : W3.heap[w2.heap.size]? = some (.cells #[.string ⟨#[47]⟩] 9 (0, 0)) := by rw [← hW3]; exact World.alloc_heap_new w2 _
    have ho := once_r HK.out deep
    have HWK := hide (walk_true L HK.out g cap w2.heap.size deep 0 1000 W3 (by decide) (by decide) (node_mono (hrow2.below hb3) hb3.size) hg3 (by have := ho.2.2.2.2.1; omega))
    have HB3 := hide hb3
    have HW3 := hide hW3
    have HB2 := hide hb2
    have HO := hide ho
    clear hown2 hmap hrow2 hb2 hb3 hg3 ho hW3 HNO
    go_wp2_with (rw [HW3.out])
    go_wp2_with fail
    refine HWK.out.mono ?_
    rintro e w4 ⟨ta, tn, tc, st, rfl, hb4⟩
    obtain ⟨l, hl⟩ : ∃ l, visG L deep 1000 (L.length + 1) 0 ⟨#[47]⟩ 0 = l := ⟨_, rfl⟩
    rw [hl]
    have ho := HO.out
    simp only [hl] at ho
    rw [outW_all (fun v hv => by rw [(ho.2.2.2.2.2.at_ v hv).2.1]; exact dep_pos _ _)]
    obtain ⟨x, hx⟩ : ∃ x, outS l = x := ⟨_, rfl⟩
    rw [show (⟨(outL l).toArray⟩ : ByteArray) = x from hx]
    rw [hx] at ho
    have hxs : x.size ≤ 1000000000 := by
      have h1 := out_len HK.out ho.2.2.2.2.2
      have h2 := ho.2.2.2.2.1
      have h3 : x.size = (outL l).length := by rw [← hx, ← len_data]; rfl
      have h4 : 12301 * l.length ≤ 12301 * 1000 := Nat.mul_le_mul_left _ (by omega)
      omega
    obtain ⟨W5, hW5⟩ : ∃ W5, w4.alloc (.cells #[.string x, .slice ta tn tc, .int .i64 st] 27) = W5 := ⟨_, rfl⟩
    have hb5 : Below w4.heap.size w4 W5 := by rw [← hW5]; exact (Below.refl _ _).alloc (Nat.le_refl _) _
    have hx5 : W5.heap[w4.heap.size]? = some (.cells #[.string x, .slice ta tn tc, .int .i64 st] 27 (0, 0)) := by rw [← hW5]; exact World.alloc_heap_new w4 _
    have c5 : W5.cell? ⟨w4.heap.size, 0, none⟩ = some (.string x) := by rw [Lib.cell_of_heap hx5]; rfl
    obtain ⟨b, hb⟩ : ∃ b, w4.heap.size = b := ⟨_, rfl⟩
    have hb15 : Below w1.heap.size w1 W5 := HB2.out.trans ((HB3.out.mono HB2.out.size).trans (hb4.trans (hb5.mono hb4.size) |>.mono (Nat.le_trans HB2.out.size HB3.out.size)))
    have HB5 : Hid (Below w.heap.size w W5) := hide (HB1.out.trans (hb15.mono HB1.out.size))
    have HR5 : Hid (NodeRow w1.heap.size W5 (.slice va L.length vc) L) := hide (HROW.out.below hb15)
    have HW5 := hide hW5
    have HX := hide ho
    clear hW5 hb4 hb5 hx5 hb15 ho hl hx HWK HB2 HB3 HW3 HO HROW
    go_wp2_with (rw [HW5.out])
    refine (num_any 0 _).mono ?_
    rintro e w6 ⟨rfl, hw6⟩
    rw [hw6]
    rw [hb] at c5
    clear hw6 hb HW5
    have HL := hide (lines_any x ⟨#[47]⟩ W5 (by omega))
    go_wp2_with fail
    refine HL.out.mono ?_
    rintro e w6 ⟨rfl, hw6⟩
    rw [hw6, HX.out.1]
    clear hw6 HL
    go_wp2
    go_loopw [11, 12] (fun tv iv wr => ∃ k : Nat, k ≤ x.size ∧ iv = .int .i64 (k : Int) ∧ tv = .int .i64 (((x.data.toList.take k).count 10 : Nat) : Int) ∧ wr = W5) (fun _ iv _ => x.size - (intOf iv).toNat)
    case atStart => exact ⟨0, Nat.zero_le _, rfl, rfl, rfl⟩
    case round =>
      obtain ⟨k, hk, rfl, rfl, hwr⟩ := hrel
      rw [hwr]
      clear hwr
      have hq1 : (x.data.toList.take k).count 10 ≤ k := Nat.le_trans List.count_le_length (by rw [List.length_take]; omega)
      obtain ⟨q, hq⟩ : ∃ q, (x.data.toList.take k).count 10 = q := ⟨_, rfl⟩
      rw [hq] at hq1 ⊢
      by_cases hlt : k < x.size
      · have hkI : (k : Int) < (x.size : Int) := by omega
        have hst := ten_take hlt
        rw [hq] at hst
        have HST := hide hst
        clear hst hq
        by_cases hc : x[k] = 10
        · have hbc : ((x[k].toNat : Int) == 10) = true := by rw [hc]; rfl
          have HC := hide hc
          clear hc
          go_wp2
          go_roundw
          case rel => exact ⟨k + 1, by omega, by go_num, by rw [HST.out, if_pos HC.out]; go_num, trivial⟩
          case measure => simp [intOf]; omega
        · have hbc : ((x[k].toNat : Int) == 10) = false := by
            rw [beq_eq_false_iff_ne]; intro e; exact hc (UInt8.toNat_inj.1 (by have : (10 : UInt8).toNat = 10 := rfl; omega))
          have HC := hide hc
          clear hc
          go_wp2
          go_roundw
          case rel => exact ⟨k + 1, by omega, by go_num, by rw [HST.out, if_neg HC.out]; rfl, trivial⟩
          case measure => simp [intOf]; omega
      · have hke : k = x.size := by omega
        subst hke
        have hqt : q = ((List.range L.length).map (opn L)).sum := by
          rw [← hq, ← HX.out.2.2.1]
          unfold tensD
          rw [List.take_of_length_le (by rw [len_data]; omega)]
        rw [hqt]
        clear hq hqt hq1
        obtain ⟨tt, htt⟩ : ∃ tt, ((List.range L.length).map (opn L)).sum = tt := ⟨_, rfl⟩
        rw [htt]
        have HTT := hide htt
        clear htt
        go_wp2
        go_loopw [10, 13] (fun cv iv wr => ∃ k n : Nat, 1 ≤ k ∧ k ≤ L.length ∧ iv = .int .i64 (k : Int) ∧ cv = .int .i64 ((((List.range k).map (opn L)).sum : Nat) : Int) ∧ wr = W5.drewN n) (fun _ iv _ => L.length - (intOf iv).toNat)
        case atStart => exact ⟨1, 0, Nat.le_refl _, hpos, rfl, rfl, rfl⟩
        case round =>
          obtain ⟨k, n, hk1, hk2, rfl, rfl, hwr⟩ := hrel
          rw [hwr]
          clear hwr
          have hsb : ((List.range k).map (opn L)).sum ≤ k := sum_opn _ _
          obtain ⟨q, hq⟩ : ∃ q, ((List.range k).map (opn L)).sum = q := ⟨_, rfl⟩
          rw [hq] at hsb ⊢
          have HQ := hide hq
          clear hq
          by_cases hlt : k < L.length
          · have hkI : (k : Int) < (L.length : Int) := by omega
            obtain ⟨nd, hnd⟩ : ∃ nd, L[k]? = some nd := ⟨_, List.getElem?_eq_getElem hlt⟩
            obtain ⟨wy, a, hwy, _, _, hup, hak, _⟩ := HK.out.node k nd hnd (by omega)
            have hsn := seen_start HK.out hnd (by omega) hup
            obtain ⟨g', ka, km, kc, e, hg', _, ⟨p0, p1, p2, p3, p4, p5, p6⟩, _⟩ := HR5.out.at hnd
            have hva := e
            subst hva
            rw [hup] at p2 hsn
            have HSN := hide hsn
            have HND := hide (⟨hnd, hwy⟩ : _ ∧ _)
            clear hnd hwy hsn hup
            go_wp2
            go_loopw [14, 15] (fun ov uv wr => ∃ (o : Nat) (u : Int), ov = .int .i64 (o : Int) ∧ uv = .int .i64 u ∧ Seen L k o u ∧ wr = W5.drewN n) (fun _ uv _ => ((intOf uv) + 1).toNat)
            case atStart => exact ⟨1, a, rfl, rfl, HSN.out, rfl⟩
            case round =>
              obtain ⟨o, u, rfl, rfl, ⟨ho1, hsn⟩, hwr⟩ := hrel
              rw [hwr]
              clear hwr
              rcases hsn with ⟨rfl, hoo⟩ | ⟨c, rfl, hcl, hoc⟩
              · have HO := hide hoo
                clear hoo
                have hwb : (⟨#[47]⟩ : ByteArray) ++ wy = wayB K k := by
                  unfold wayB
                  rw [HND.out.2]
                  exact bs_app [47] wy.data.toList
                have hws : wy.size ≤ 12300 := by
                  have := way_len HK.out hlt
                  rw [← hwb] at this
                  simp only [ByteArray.data_append, Array.toList_append, List.length_append] at this
                  rw [← len_data]
                  omega
                have ad1 : ∀ w, (Op.stringOp .add ⟨#[47]⟩ wy).run Tryz.prog w = .ok (.string (wayB K k)) w := fun w => by
                  have := run_string_add_sum (P := Tryz.prog) (w := w) (⟨#[47]⟩ : ByteArray) wy (by rw [show (⟨#[47]⟩ : ByteArray).size = 1 from rfl]; omega)
                  rw [hwb] at this
                  exact this
                have hbo : ((opn L k : Nat) : Int) ≤ 1 := by have := openD_le L k k; show ((openD L k k : Nat) : Int) ≤ 1; omega
                have hln : linesD x (wayB K k) = opn L k := HX.out.2.1 k hlt
                obtain ⟨Wn, hWn⟩ : ∃ Wn, W5.drewN n = Wn := ⟨_, rfl⟩
                have HRn : Hid (NodeRow w1.heap.size Wn (.slice (some ⟨g', 0, none⟩) L.length vc) L) := by rw [← hWn]; exact HR5.out.below ⟨rfl, rfl, rfl, Nat.le_refl _, fun _ _ => rfl⟩
                have cn : Wn.cell? ⟨b, 0, none⟩ = some (.string x) := by rw [← hWn]; exact c5
                have HWN := hide hWn
                rw [hWn]
                clear hWn
                have HWAY : ∀ m, Calls Tryz.prog 12 #[.slice (some ⟨g', 0, none⟩) L.length vc, .int .i64 (k : Int)] (Wn.drewN m) fun e w' => e = .returned (.string wy) ∧ w' = Wn.drewN m := fun m => refway_any w1.heap.size _ L K k wy _ (path_k HK.out) hlen (by omega) hlt HND.out.2 (HRn.out.below ⟨rfl, rfl, rfl, Nat.le_refl _, fun _ _ => rfl⟩)
                have HLIN : ∀ m, Calls Tryz.prog 11 #[.string x, .string (wayB K k)] (Wn.drewN m) fun e w' => e = .returned (.int .i64 ((opn L k : Nat) : Int)) ∧ w' = Wn.drewN m := fun m => by
                  have := lines_any x (wayB K k) (Wn.drewN m) (by omega)
                  rw [hln] at this
                  exact this
                rw [HO.out]
                obtain ⟨z, hz⟩ : ∃ z, opn L k = z := ⟨_, rfl⟩
                have HZ := hide hz
                rw [hz] at HLIN hbo ⊢
                have hbz : ((z : Int) == (z : Int)) = true := by simp
                clear hwb hln hz HSN
                go_wp2
                go_quiet ((first | (go_at_call 12; exact Calls.quiet_of_same (HWAY _)) | (go_at_call 11; exact Calls.quiet_of_same (HLIN _))))
                go_wp2
                go_roundw
                case rel => exact ⟨k + 1, n + nq, by omega, by omega, by go_num, by rw [range_map, HQ.out, HZ.out]; go_num, by rw [← HWN.out, World.drewN_drewN]⟩
                case measure => simp [intOf]; omega
              · obtain ⟨mc, hmc⟩ : ∃ nd, L[c]? = some nd := ⟨_, List.getElem?_eq_getElem hcl⟩
                obtain ⟨hs1, hs2, hs3⟩ := seen_step HK.out ⟨ho1, hoc⟩ hmc
                obtain ⟨g2, ka2, km2, kc2, e2, hg2, _, ⟨q0, q1, q2, q3, q4, q5, q6⟩, _⟩ := HR5.out.at hmc
                cases e2
                have HS1 := hide hs1
                have hcI : (c : Int) < (L.length : Int) := by omega
                have hc0 : (0 : Int) ≤ (c : Int) := by omega
                obtain ⟨up, hup⟩ : ∃ up, mc.up = up := ⟨_, rfl⟩
                rw [hup] at hs2 hs3 q2 HS1
                obtain ⟨kd, hkd⟩ : ∃ kd, mc.kind = kd := ⟨_, rfl⟩
                rw [hkd] at q0 HS1
                clear hs1 hmc hoc hup hkd
                by_cases hx0 : kd = 120
                · have hb0 : (kd == 120) = true := by rw [hx0]; rfl
                  have HX0 := hide hx0
                  clear hx0
                  go_wp2
                  go_roundw
                  case rel => exact ⟨0, up, rfl, rfl, by have := HS1.out; rw [if_pos HX0.out] at this; exact this, trivial⟩
                  case measure => simp [intOf]; omega
                · have hb0 : (kd == 120) = false := by rw [beq_eq_false_iff_ne]; exact hx0
                  have HX0 := hide hx0
                  clear hx0
                  go_wp2
                  go_roundw
                  case rel => exact ⟨o, up, rfl, rfl, by have := HS1.out; rw [if_neg HX0.out] at this; exact this, trivial⟩
                  case measure => simp [intOf]; omega
          · obtain rfl : k = L.length := by omega
            have hqt : q = tt := by rw [← HQ.out, HTT.out]
            subst hqt
            have hbq : ((q : Int) == (q : Int)) = true := by simp
            go_wp2
            go_ret
            exact ⟨rfl, HB5.out.trans ⟨rfl, rfl, rfl, Nat.le_refl _, fun _ _ => rfl⟩⟩
  · have hne : (er == 0) = false := by rw [beq_eq_false_iff_ne, ← her]; exact he
    rw [her, hpl]
    have HB1 := hide hb1
    obtain ⟨va, vc, rfl⟩ := hrow.form
    clear hown hsrt hrow hb1 hL HLO he hpl her
    go_wp2
    go_ret
    exact ⟨rfl, HB1.out⟩
end Go.Proofs.YtfemboojdablhaaGreatDoor.Tre
