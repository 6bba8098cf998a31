/- Walk: the law WalkDepths, plain; how deep a line is. -/
import Derived.Test.YtfemboojdablhaaGreatDoorWkX
namespace Go.Proofs.YtfemboojdablhaaGreatDoor.Tre
open Go.RowKit Go.Shelf

/-- The lines that are as deep as that. -/
def inD (mn mx : Int) (p : ByteArray) : Bool := decide (mn ≤ (deepS p : Int)) && decide ((deepS p : Int) ≤ mx)
def wantD (mn mx : Int) (done : List ByteArray) : List UInt8 := (done.filter (inD mn mx)).flatMap (fun p => p.data.toList ++ [10])
theorem wantD_snoc (mn mx : Int) (done : List ByteArray) (p : ByteArray) : wantD mn mx (done ++ [p]) = wantD mn mx done ++ (if inD mn mx p then p.data.toList ++ [10] else []) := by
  unfold wantD
  rw [List.filter_append, List.flatMap_append]
  congr 1
  cases h : inD mn mx p <;> simp [List.filter, h]
theorem line_ext {s : ByteArray} {f k : Nat} (hf : f ≤ k) (hk : k < s.size) (hc : s[k] = 10) : s.extract f (k + 1) = bs ((s.extract f k).data.toList ++ [10]) := by
  rw [extract_bs, extract_bs, data_bs]
  congr 1
  have e : k + 1 - f = (k - f) + 1 := by omega
  have hl : k - f < (s.data.toList.drop f).length := by rw [List.length_drop, size_list]; omega
  rw [e, List.take_succ_eq_append_getElem hl]
  congr 2
  have e2 : f + (k - f) = k := by omega
  rw [List.getElem_drop]
  simp only [e2]
  exact hc
/-- WalkDepths, plain. -/
theorem depths_plain {L : List NodeD} {K : List ByteArray} (h : KInv L K) (mn mx : Int) (hmx : 0 ≤ mx) {done : List ByteArray} (hd : done = (cutS 10 (outS (visG L false 1000 (L.length + 1) 0 ⟨#[47]⟩ 0))).dropLast) :
    wantD mn mx done = outW mn (fun _ => true) (visG L false mx (L.length + 1) 0 ⟨#[47]⟩ 0) := by
  have hr := vis_r h false 1000 (L.length + 1)
  have hten : ∀ v ∈ visG L false 1000 (L.length + 1) 0 ⟨#[47]⟩ 0, (10 : UInt8) ∉ v.path.data.toList := fun v hv => by rw [(hr.at_ v hv).1]; exact h.ten _
  have hvm := vis_max (L := L) (mx := mx) (my := 1000) (L.length + 1) 0 ⟨#[47]⟩ 0 hmx (fun v hv => by
    obtain ⟨_, e, hn⟩ := hr.at_ v hv
    rw [e]; exact dep_mx h _ hn)
  rw [hd, cut_out hten, List.dropLast_concat, hvm]
  unfold wantD outW outL
  rw [List.filter_filter, List.filter_map, List.flatMap_map]
  congr 1
  apply List.filter_congr
  intro v hv
  obtain ⟨e1, e2, e3⟩ := hr.at_ v hv
  have e4 := deep_way h e3
  rw [← e1, ← e2] at e4
  unfold selV
  simp only [Function.comp, inD, e4, Bool.and_true]
theorem deep_any (s : ByteArray) (w : World) (hs : s.size ≤ 1073741824) : Calls Tryz.prog 16 #[.string s] w fun e w' => e = .returned (.int .i64 (deepS s : Int)) ∧ w' = w := by
  cases h0 : (s.toList == [47])
  · have HD : Hid (deepS s = s.data.toList.count 47) := by unfold deepS; rw [h0]; rfl
    go_enter Tryz.func16, Tryz.ntmps16
    go_wp2
    go_loopw [3, 4] (fun nv iv wr => ∃ k : Nat, k ≤ s.size ∧ iv = .int .i64 (k : Int) ∧ nv = .int .i64 (((s.data.toList.take k).count 47 : Nat) : Int) ∧ wr = w) (fun _ iv _ => s.size - (intOf iv).toNat)
    case atStart => exact ⟨0, Nat.zero_le _, rfl, rfl, rfl⟩
    case round =>
      obtain ⟨k, hk, rfl, rfl, hwr⟩ := hrel
      rw [hwr]
      clear hwr
      have hq1 : (s.data.toList.take k).count 47 ≤ k := Nat.le_trans List.count_le_length (by rw [List.length_take]; omega)
      obtain ⟨q, hq⟩ : ∃ q, (s.data.toList.take k).count 47 = q := ⟨_, rfl⟩
      rw [hq] at hq1 ⊢
      by_cases hlt : k < s.size
      · have hkI : (k : Int) < (s.size : Int) := by omega
        have hst : (s.data.toList.take (k + 1)).count 47 = q + if s[k] = 47 then 1 else 0 := by
          have hl : k < s.data.toList.length := by rw [size_list]; exact hlt
          rw [List.take_succ_eq_append_getElem hl, List.count_append, hq]
          congr 1
          have e : s.data.toList[k] = s[k] := rfl
          rw [e, List.count_singleton]
          by_cases h : s[k] = 47
          · simp [h]
          · simp [h]
        have HST := hide hst
        clear hst hq
        by_cases hc : s[k] = 47
        · have hbc : ((s[k].toNat : Int) == 47) = true := by rw [hc]; rfl
          have HC := hide hc
          clear hc
          go_wp2
          go_roundw
          case rel => exact ⟨k + 1, by omega, by go_num, by rw [HST.out, if_pos HC.out]; go_num, trivial⟩
          case measure => simp [intOf]; omega
        · have hbc : ((s[k].toNat : Int) == 47) = false := by
            rw [beq_eq_false_iff_ne]; intro e; exact hc (UInt8.toNat_inj.1 (by have : (47 : UInt8).toNat = 47 := rfl; omega))
          have HC := hide hc
          clear hc
          go_wp2
          go_roundw
          case rel => exact ⟨k + 1, by omega, by go_num, by rw [HST.out, if_neg HC.out]; rfl, trivial⟩
          case measure => simp [intOf]; omega
      · have hke : k = s.size := by omega
        subst hke
        have hqt : Hid (q = deepS s) := by
          unfold Hid
          rw [← hq, HD.out, List.take_of_length_le (by rw [size_list]; omega)]
        clear hq hq1
        go_wp2
        go_ret
        exact ⟨by rw [hqt.out]; rfl, rfl⟩
  · have HD : Hid (deepS s = 0) := by unfold deepS; rw [h0]; rfl
    go_enter Tryz.func16, Tryz.ntmps16
    go_wp2
    go_ret
    exact ⟨by rw [HD.out]; rfl, rfl⟩
end Go.Proofs.YtfemboojdablhaaGreatDoor.Tre
