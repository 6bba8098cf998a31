/- The walk of TreeJoined. -/
import Derived.Test.YtehbjabneocflaaDoorLawFinds
import Derived.Test.YtehbjabneocflaaDoorJoined
namespace Go.Proofs.YtehbjabneocflaaDoor
open Go.RowKit
def FPost (R : FRes) (w : World) (e : Ending) (w' : World) : Prop := e = .returned (.tuple #[.int .i64 (R.1 : Int), .int .i64 R.2.1]) ∧ Below w.heap.size w w'
theorem findR_in {L : List NodeD} {k : Nat} (hk : k < L.length) (s : ByteArray) : findR L (k : Int) s true = findD L 41 k s true 0 := by
  unfold findR; rw [if_neg (by omega), Int.toNat_natCast]
theorem tfind_in (C : Nat) (a6 a7 a9 a2 a4 a8 : Addr) (h6 : 6 < C) (L : List NodeD) (v : Value) (hwf : WF L) (k : Nat) (s : ByteArray) (w : World) (hk : k < L.length) (hs : s.size ≤ 1073741824) (hrow : NodeRow C w v L) (hC : C ≤ w.heap.size) (hS : Sent C a6 a7 a9 a2 a4 a8 w) :
    Calls Tryd.prog 16 #[v, .int .i64 (k : Int), .string s, .bool true] w (FPost (findD L 41 k s true 0) w) := by
  have h := tfind_any C a6 a7 a9 a2 a4 a8 h6 L v hwf (k : Int) s true w hs hrow hC hS
  rw [findR_in hk] at h
  exact h
theorem reffind_in (L : List NodeD) (v : Value) (C : Nat) (hwf : WF L) (k : Nat) (s : ByteArray) (w : World) (hk : k < L.length) (hs : s.size ≤ 1073741824) (hrow : NodeRow C w v L) (hC : C ≤ w.heap.size) :
    Calls Tryd.prog 17 #[v, .int .i64 (k : Int), .string s, .bool true] w (FPost (findD L 41 k s true 0) w) := by
  have h := reffind_any L v C hwf (k : Int) s true w hs hrow hC
  rw [findR_in hk] at h
  exact h
theorem find_four (L : List NodeD) (k : Nat) (s : ByteArray) : (findD L 41 k s true 0).2.1 = 0 ∨ (findD L 41 k s true 0).2.1 = 6 ∨ (findD L 41 k s true 0).2.1 = 7 ∨ (findD L 41 k s true 0).2.1 = 9 := by
  rcases find_err L 41 k s true 0 with h | ⟨_, h⟩
  · exact .inl h
  · exact .inr h
theorem head_of {b : ByteArray} (h1 : 1 ≤ b.size) (hc : ¬ (b[0].toNat : Int) = 47) : ¬ b.data.toList.head? = some 47 := by
  intro h
  apply hc
  have e : b.data.toList.head? = some b[0] := by
    rw [List.head?_eq_getElem?, Array.getElem?_toList]
    exact Array.getElem?_eq_getElem (show 0 < b.size by omega)
  rw [e] at h
  rw [Option.some.inj h]
  rfl

set_option maxRecDepth 100000 in
set_option maxHeartbeats 4000000 in
theorem law_joined (C : Nat) (a6 a7 a9 a2 a4 a8 : Addr) (h6 : 6 < C) (s a b : ByteArray) (w : World) (hs : s.size ≤ 1073741824) (ha : a.size ≤ 300000000) (hb : b.size ≤ 300000000) (hC : C ≤ w.heap.size) (hS : Sent C a6 a7 a9 a2 a4 a8 w)  :
    Calls Tryd.prog 6 #[.string s, .string a, .string b] w fun e w' => e = .returned (.bool true) ∧ Below w.heap.size w w' := by
  have HS := hide hS
  clear hS
  go_enter Tryd.func6, Tryd.ntmps6
  go_wp2_with fail
  refine (load_any s w hs).mono ?_
  rintro e w1 ⟨v, er, at_, lk, rfl, hown1, hwf, hb1⟩
  have hrow1 := hown1.row
  clear hown1
  generalize lk.map (·.1) = L at hwf hrow1
  have HWF := hide hwf
  have hlen := hwf.len
  have HK : Hid (∀ (i : Nat) (n : NodeD), L[i]? = some n → n.kids.length ≤ 1000) := fun i n h => by have h1 := hwf.klen i n h; have h2 := hwf.len; omega
  have HROW1 := hide hrow1
  clear hwf
  have hz1 := hb1.size
  obtain ⟨va, vc, rfl⟩ := hrow1.form
  clear hrow1
  go_wp2_with fail
  refine (nodes_any w1.heap.size _ _ w1 hlen (unhide HK) (unhide HROW1) (Nat.le_refl _)).mono ?_
  rintro e w2 ⟨v2, l2, rfl, hown2, hmap2, hb2⟩
  have hz2 := hb2.size
  have hrow2 : NodeRow w2.heap.size w2 v2 L := hmap2 ▸ hown2.row
  have HROW2 := hide hrow2
  have HR1 := hide ((unhide HROW1).below hb2)
  have HB2 : Hid (Below w.heap.size w w2) := hb1.trans (hb2.mono hz1)
  obtain ⟨ua, uc, rfl⟩ := hrow2.form
  clear hown2 hmap2 hrow2 HROW1
  have HS2 := hide (((unhide HS).below ((unhide HB2).mono hC) h6).up (D := w2.heap.size) (by omega))
  clear HS
  by_cases hL0 : L.length = 0
  · have h0 : ((L.length : Int) == 0) = true := by rw [beq_iff_eq]; omega
    go_wp2
    go_ret
    exact ⟨rfl, unhide HB2⟩
  · have h0 : ((L.length : Int) == 0) = false := by rw [beq_eq_false_iff_ne]; omega
    cases hae : a.toList.isEmpty
    · cases hbe : b.toList.isEmpty
      · have hb1' := emp_size_no hbe
        have ha1' := emp_size_no hae
        by_cases hc : (b[0].toNat : Int) = 47
        · have hc' : ((b[0].toNat : Int) == 47) = true := by rw [beq_iff_eq]; exact hc
          go_wp2
          go_ret
          exact ⟨rfl, unhide HB2⟩
        · have hc' : ((b[0].toNat : Int) == 47) = false := by rw [beq_eq_false_iff_ne]; exact hc
          have hpos : 0 < L.length := by omega
          have HH := hide (head_of hb1' hc)
          clear hc
          go_wp2
          go_loop [11] (fun iv => ∃ j : Nat, j ≤ L.length ∧ iv = .int .i64 j ∧ ∀ (i : Nat) (m : NodeD), i < j → L[i]? = some m → (m.kind == 108) = false) (fun iv => L.length - (intOf iv).toNat)
          case atStart => exact ⟨0, Nat.zero_le _, rfl, fun i m h => absurd h (by omega)⟩
          case round =>
            obtain ⟨j, hj, rfl, hno⟩ := hrel
            have HNO := hide hno
            clear hno
            by_cases hlt : j < L.length
            · obtain ⟨x, hx⟩ : ∃ x, L[j]? = some x := ⟨_, List.getElem?_eq_getElem hlt⟩
              obtain ⟨ga, ka, km, kc, rfl, hga, hca, ⟨p0, _⟩, _⟩ := (unhide HR1).at hx
              have HX := hide hx
              clear hx
              cases hE : (x.kind == 108)
              · go_wp2
                go_round
                case rel =>
                  refine ⟨j + 1, by omega, by go_num, fun i m hi hm => ?_⟩
                  by_cases e : i = j
                  · subst e
                    rw [unhide HX] at hm
                    cases hm
                    exact hE
                  · exact unhide HNO i m (by omega) hm
                case measure => simp [intOf]; omega
              · go_wp2
                go_ret
                exact ⟨rfl, unhide HB2⟩
            · obtain rfl : j = L.length := by omega
              have hnl : noLinks L := fun i m hm => unhide HNO i m (List.getElem?_eq_some_iff.1 hm).1 hm
              have HJ := hide (joined hnl a b ha1' hb1' (unhide HH))
              have HOK := hide (find_ok (unhide HWF) 41 0 a true 0 hpos (by omega))
              have HEA := hide (find_four L 0 a)
              have HEN := hide (find_four L 0 (a ++ ⟨#[47]⟩ ++ b))
              clear HNO HH hnl
              go_wp2_with fail
              refine (tfind_in w2.heap.size a6 a7 a9 a2 a4 a8 (by omega) L _ (unhide HWF) 0 a w2 hpos (by omega) (unhide HROW2) (Nat.le_refl _) (unhide HS2)).mono ?_
              rintro e w3 ⟨rfl, hb3⟩
              have hz3 := hb3.size
              go_wp2_with fail
              refine (reffind_in L _ w1.heap.size (unhide HWF) 0 a w3 hpos (by omega) ((unhide HR1).below (hb3.mono hz2)) (by omega)).mono ?_
              rintro e w4 ⟨rfl, hb4⟩
              have hz4 := hb4.size
              generalize hRA : findD L 41 0 a true 0 = RA at HJ HOK HEA
              obtain ⟨R1, R2, R3⟩ := RA
              have hR1 : R1 < L.length := (unhide HOK).1
              have HOE := hide (find_four L R1 b)
              generalize hRO : findD L 41 R1 b true 0 = RO at HJ HOE
              generalize hRN : findD L 41 0 (a ++ ⟨#[47]⟩ ++ b) true 0 = RN at HJ HEN
              have HN1 := hide (lawnum_any R2 w4 (unhide HEA))
              clear HOK HEA
              have hne : (R2 != R2) = false := by simp
              go_wp2_with fail
              refine (unhide HN1).mono ?_
              rintro e w5 ⟨rfl, hw5⟩
              rw [hw5]; clear hw5 HN1
              go_wp2_with fail
              have hz24 : w2.heap.size ≤ w4.heap.size := by omega
              have HB4 := hide ((unhide HB2).trans ((hb3.trans (hb4.mono hz3)).mono (show w.heap.size ≤ w2.heap.size by omega)))
              have b24 : Below w2.heap.size w2 w4 := hb3.trans (hb4.mono hz3)
              have hTN := tfind_in w2.heap.size a6 a7 a9 a2 a4 a8 (by omega) L _ (unhide HWF) 0 (a ++ ⟨#[47]⟩ ++ b) w4 hpos (by rw [ByteArray.size_append, ByteArray.size_append]; show a.size + 1 + b.size ≤ _; omega) ((unhide HROW2).below b24) hz24 ((unhide HS2).below b24 (by omega))
              rw [hRN] at hTN
              refine hTN.mono ?_
              rintro e w5 ⟨rfl, hb5⟩
              have hz5 := hb5.size
              clear hTN
              have HN2 := hide (lawnum_any RN.2.1 w5 (unhide HEN))
              by_cases hf : R2 = 0
              · have hEQ : RN = RO := (unhide HJ).2 hf
                subst hEQ
                subst hf
                go_wp2_with fail
                have b25 : Below w2.heap.size w2 w5 := b24.trans (hb5.mono hz24)
                have hTO := tfind_in w2.heap.size a6 a7 a9 a2 a4 a8 (by omega) L _ (unhide HWF) R1 b w5 hR1 (by omega) ((unhide HROW2).below b25) (by omega) ((unhide HS2).below b25 (by omega))
                rw [hRO] at hTO
                refine hTO.mono ?_
                rintro e w6 ⟨rfl, hb6⟩
                have hz6 := hb6.size
                go_wp2_with fail
                have b26 : Below w2.heap.size w2 w6 := b25.trans (hb6.mono (by omega))
                have hRR := reffind_in L _ w1.heap.size (unhide HWF) R1 b w6 hR1 (by omega) ((unhide HR1).below (b26.mono hz2)) (by omega)
                rw [hRO] at hRR
                refine hRR.mono ?_
                rintro e w7 ⟨rfl, hb7⟩
                have hz7 := hb7.size
                clear hTO hRR
                have HN3 := hide (lawnum_any RN.2.1 w7 (unhide HEN))
                have hne2 : (RN.2.1 != RN.2.1) = false := by simp
                go_wp2_with fail
                refine (unhide HN3).mono ?_
                rintro e w8 ⟨rfl, hw8⟩
                rw [hw8]; clear hw8
                go_wp2_with fail
                refine (refparts_any b w7 (by omega)).mono ?_
                rintro e w9 ⟨v9, rfl, hown9, hb9⟩
                have HB9 := hide (((unhide HB4).trans ((hb5.trans ((hb6.trans (hb7.mono hz6)).mono hz5)).mono (show w.heap.size ≤ w4.heap.size by omega))).trans (hb9.mono (show w.heap.size ≤ w7.heap.size by omega)))
                obtain ⟨ra, rc, rfl⟩ : ∃ a c, v9 = .slice a (partsS b).length c := by
                  rcases hown9.2 with ⟨h, h2⟩ | ⟨g, cap, cur, h, _⟩
                  · exact ⟨none, 0, by rw [h, h2]⟩
                  · exact ⟨_, _, h⟩
                clear hown9
                by_cases hp0 : (partsS b).length = 0
                · have hpe : (((partsS b).length : Int) == 0) = true := by rw [beq_iff_eq]; omega
                  go_wp2
                  go_ret
                  exact ⟨rfl, unhide HB9⟩
                · have hpe : (((partsS b).length : Int) == 0) = false := by rw [beq_eq_false_iff_ne]; omega
                  go_wp2
                  go_ret
                  exact ⟨rfl, unhide HB9⟩
              · have hfe : (R2 != 0) = true := by simp [hf]
                have hEQ : RN.2.1 = R2 := (unhide HJ).1 hf
                rw [hEQ] at HN2
                go_wp2_with fail
                refine (unhide HN2).mono ?_
                rintro e w6 ⟨rfl, hw6⟩
                rw [hw6]; clear hw6
                go_wp2
                go_ret
                exact ⟨by simp, (unhide HB4).trans (hb5.mono (show w.heap.size ≤ w4.heap.size by omega))⟩
      · go_wp2
        go_ret
        exact ⟨rfl, unhide HB2⟩
    · go_wp2
      go_ret
      exact ⟨rfl, unhide HB2⟩
end Go.Proofs.YtehbjabneocflaaDoor
