import Derived.Test.YtiekhoehkgmbjaaDoorGrB
/- The document's patterns: a bracket. -/
namespace Go.Proofs.YtiekhoehkgmbjaaDoor
open Go.RowKit Go.Maps

theorem partD_class {l n : List UInt8} (S : BSet) (k : Bool) (h : className l = some n) : ∃ S', partD true l S k = ⟨S', k && (classD n).isSome, l.drop (n.length + 4)⟩ := by
  unfold partD
  rw [h]
  cases hc : classD n with
  | some f => exact ⟨orD S f, by simp [hc]⟩
  | none => exact ⟨S, by simp [hc]⟩
theorem partD_item {l l2 : List UInt8} {a : UInt8} (S : BSet) (k : Bool) (h : className l = none) (hi : itemD true l = (a, l2)) (hr : rangeD l2 = false) : ∃ S', partD true l S k = ⟨S', k, l2⟩ := by
  unfold partD
  rw [h]
  simp only [hi, hr]
  exact ⟨_, rfl⟩
theorem partD_range {l l2 l3 : List UInt8} {a b : UInt8} (S : BSet) (k : Bool) (h : className l = none) (hi : itemD true l = (a, l2)) (hr : rangeD l2 = true) (h3 : itemD true l2.tail = (b, l3)) : ∃ S', partD true l S k = ⟨S', k, l3⟩ := by
  unfold partD
  rw [h]
  simp only [hi, hr, h3, if_true]
  exact ⟨_, rfl⟩
theorem brD_none (n : Nat) (first : Bool) (S : BSet) (k : Bool) : brD true n first [] S k = none := by cases n <;> rfl
theorem brD_end {n : Nat} {r : List UInt8} (S : BSet) (k : Bool) : brD true (n + 1) false (93 :: r) S k = some ⟨S, k, r⟩ := by rw [brD, if_pos ⟨rfl, rfl⟩]
theorem brD_go {n : Nat} {c : UInt8} {r rest : List UInt8} {first : Bool} {S S' : BSet} {k k' : Bool} (hc : c ≠ 93 ∨ first = true) (hp : partD true (c :: r) S k = ⟨S', k', rest⟩) : brD true (n + 1) first (c :: r) S k = brD true n false rest S' k' := by
  rw [brD, if_neg, hp]
  rintro ⟨h1, h2⟩
  rcases hc with h | h
  · exact h h1
  · rw [h] at h2; cases h2
/-- What Bracket tells beside the set. -/
def brTold (s : ByteArray) (i : Nat) : Option (Bool × Nat) := (bracketD true noD (s.data.toList.drop i)).map (fun p => (p.known, s.size - p.rest.length))
def brAns (set : ByteArray) : Option (Bool × Nat) → Value
  | none => .tuple #[.string ⟨#[]⟩, .int .i64 (-1), .bool false]
  | some (k, m) => .tuple #[.string set, .int .i64 (m : Int), .bool (!k)]
def toldOf (s : ByteArray) (R : Option PartD) : Option (Bool × Nat) := R.map (fun p => (p.known, s.size - p.rest.length))
def startD (s : ByteArray) (j : Nat) : Option PartD := brD true (s.size - j + 1) true (s.data.toList.drop j) (fun _ => false) true
theorem told_no {s : ByteArray} {i : Nat} (hi : i < s.size) (hc : s[i]'hi = 91) (ht : turnedD noD (s.data.toList.drop (i + 1)) = false) : brTold s i = toldOf s (startD s (i + 1)) := by
  unfold brTold toldOf startD
  rw [sl_get hi, hc, bracketD, if_pos rfl, if_neg (by rw [ht]; decide), List.length_drop, len_list]
theorem told_yes {s : ByteArray} {i : Nat} (hi : i < s.size) (hc : s[i]'hi = 91) (ht : turnedD noD (s.data.toList.drop (i + 1)) = true) : brTold s i = toldOf s (startD s (i + 2)) := by
  unfold brTold toldOf startD
  rw [sl_get hi, hc, bracketD, if_pos rfl, if_pos ht, List.length_tail, List.length_drop, len_list, List.tail_drop, Option.map_map]
  have e : s.size - (i + 1) - 1 = s.size - (i + 2) := by omega
  rw [e]
  rfl
theorem turned_has {s : ByteArray} {j : Nat} (hj : j < s.size) : turnedD noD (s.data.toList.drop j) = hasB ⟨#[33, 94]⟩ (s[j]'hj) := by
  rw [sl_get hj]
  unfold turnedD hasB noD
  simp
theorem turned_end {s : ByteArray} {j : Nat} (hj : s.size ≤ j) : turnedD noD (s.data.toList.drop j) = false := by
  rw [List.drop_of_length_le (by rw [len_list]; omega)]
  rfl
theorem rangeD_at {s : ByteArray} {p : Nat} : rangeD (s.data.toList.drop p) = true ↔ ∃ h : p + 1 < s.size, s[p]'(by omega) = 45 ∧ s[p + 1]'h ≠ 93 := by
  constructor
  · intro h
    by_cases h1 : p + 1 < s.size
    · rw [sl_get (by omega : p < s.size), sl_get h1] at h
      simp [rangeD] at h
      exact ⟨h1, h.1, h.2⟩
    · exfalso
      by_cases h2 : p < s.size
      · rw [sl_get h2, List.drop_of_length_le (by rw [len_list]; omega)] at h
        simp [rangeD] at h
      · rw [List.drop_of_length_le (by rw [len_list]; omega)] at h
        simp [rangeD] at h
  · rintro ⟨h1, h2, h3⟩
    rw [sl_get (by omega : p < s.size), sl_get h1, h2]
    simp [rangeD, h3]

theorem br_ret (s : ByteArray) (i : Nat) (set t : ByteArray) (m : Int) (b : Bool) (a : Act) (w W : World) (h1 : a.tmps[8]? = some (.string t)) (h2 : a.tmps[9]? = some (.int .i64 m)) (h3 : a.tmps[10]? = some (.bool b)) (hv : brAns set (brTold s i) = .tuple #[.string t, .int .i64 m, .bool b]) (hd : a.defers = []) (hs : set.size ≤ 100000) (hW : Below w.heap.size w W) :
    bodyPost Tryd.prog Tryd.f32 (fun e w' => (∃ set : ByteArray, e = .returned (brAns set (brTold s i)) ∧ set.size ≤ 100000) ∧ Below w.heap.size w w') Exit.ret a W :=
  bodyPost_ret (v := .tuple #[.string t, .int .i64 m, .bool b]) (by simp [results, Tryd.results32, go_sem, h1, h2, h3]) hd ⟨⟨set, by rw [hv], hs⟩, hW⟩
/-- The loop of Bracket, from a place on. -/
def BrSt (s : ByteArray) (R : Option PartD) (w : World) (j : Nat) (set : ByteArray) (k first : Bool) (wr : World) : Prop :=
  ∃ (S : BSet) (n : Nat), j ≤ s.size ∧ s.size - j < n ∧ brD true n first (s.data.toList.drop j) S k = R ∧ set.size ≤ j * 300 ∧ Below w.heap.size w wr
theorem BrSt.step {s : ByteArray} {R : Option PartD} {w wr wr' : World} {j j' : Nat} {set set' : ByteArray} {k k' first : Bool} (h : BrSt s R w j set k first wr) (hj : j < s.size) (hc : s[j]'hj ≠ 93 ∨ first = true) (hp : ∀ S, ∃ S', partD true (s.data.toList.drop j) S k = ⟨S', k', s.data.toList.drop j'⟩) (hlt : j < j') (hle : j' ≤ s.size) (hs : set'.size ≤ set.size + 300) (hb : Below w.heap.size w wr') : BrSt s R w j' set' k' false wr' := by
  obtain ⟨S, n, h1, h2, h3, h4, h5⟩ := h
  obtain ⟨S', hS⟩ := hp S
  obtain ⟨n', rfl⟩ : ∃ n', n = n' + 1 := ⟨n - 1, by omega⟩
  refine ⟨S', n', hle, by omega, ?_, by omega, hb⟩
  rw [sl_get hj] at h3 hS
  rw [← h3, brD_go hc hS]
theorem BrSt.stuck {s : ByteArray} {R : Option PartD} {w wr : World} {j : Nat} {set : ByteArray} {k first : Bool} (h : BrSt s R w j set k first wr) (hj : j < s.size) (hc : s[j]'hj ≠ 93 ∨ first = true) (hp : ∀ S, ∃ S', partD true (s.data.toList.drop j) S k = ⟨S', k, []⟩) : R = none := by
  obtain ⟨S, n, h1, h2, h3, h4, h5⟩ := h
  obtain ⟨S', hS⟩ := hp S
  obtain ⟨n', rfl⟩ : ∃ n', n = n' + 1 := ⟨n - 1, by omega⟩
  rw [sl_get hj] at h3 hS
  rw [← h3, brD_go hc hS, brD_none]
theorem BrSt.over {s : ByteArray} {R : Option PartD} {w wr : World} {j : Nat} {set : ByteArray} {k first : Bool} (h : BrSt s R w j set k first wr) (hj : ¬ j < s.size) : R = none := by
  obtain ⟨S, n, h1, h2, h3, h4, h5⟩ := h
  rw [← h3, List.drop_of_length_le (by rw [len_list]; omega), brD_none]
theorem BrSt.end_ {s : ByteArray} {R : Option PartD} {w wr : World} {j : Nat} {set : ByteArray} {k : Bool} (h : BrSt s R w j set k false wr) (hj : j < s.size) (hc : s[j]'hj = 93) : toldOf s R = some (k, j + 1) := by
  obtain ⟨S, n, h1, h2, h3, h4, h5⟩ := h
  obtain ⟨n', rfl⟩ : ∃ n', n = n' + 1 := ⟨n - 1, by omega⟩
  rw [sl_get hj, hc, brD_end] at h3
  rw [← h3]
  unfold toldOf
  simp only [Option.map_some, List.length_drop, len_list]
  congr 2
  omega
theorem start_st {s : ByteArray} {j : Nat} {w : World} (hj : j ≤ s.size) : BrSt s (startD s j) w j ⟨#[]⟩ true true w := ⟨_, _, hj, Nat.lt_succ_self _, rfl, Nat.zero_le _, Below.refl _ _⟩
theorem ans_none {s : ByteArray} {i : Nat} {R : Option PartD} (hT : brTold s i = toldOf s R) (hR : R = none) : brAns ⟨#[]⟩ (brTold s i) = .tuple #[.string ⟨#[]⟩, .int .i64 (-1), .bool false] := by rw [hT, hR]; rfl
theorem ans_some {s : ByteArray} {i : Nat} {R : Option PartD} (hT : brTold s i = toldOf s R) {k : Bool} {m : Nat} (hR : toldOf s R = some (k, m)) (set : ByteArray) : brAns set (brTold s i) = .tuple #[.string set, .int .i64 (m : Int), .bool (!k)] := by rw [hT, hR]; rfl
set_option maxRecDepth 100000 in
set_option maxHeartbeats 8000000 in
theorem rbr_any (s : ByteArray) (i : Nat) (w : World) (hs : s.size ≤ 200) (hi : i < s.size) (hc : s[i]'hi = 91) :
    Calls Tryd.prog 32 #[.string s, .int .i64 (i : Int), .string ⟨#[33, 94]⟩, .bool true] w fun e w' => (∃ set : ByteArray, e = .returned (brAns set (brTold s i)) ∧ set.size ≤ 100000) ∧ Below w.heap.size w w' := by
  have hstart : (¬ ((i : Int) + 1 < (s.size : Int)) ∧ ∃ j0 : Nat, (i : Int) + 1 = (j0 : Int) ∧ j0 ≤ s.size ∧ brTold s i = toldOf s (startD s j0)) ∨ ((i : Int) + 1 < (s.size : Int) ∧ ∃ h : i + 1 < s.size, hasB ⟨#[33, 94]⟩ (s[i + 1]'h) = true ∧ ∃ j0 : Nat, (i : Int) + 1 + 1 = (j0 : Int) ∧ j0 ≤ s.size ∧ brTold s i = toldOf s (startD s j0)) ∨ ((i : Int) + 1 < (s.size : Int) ∧ ∃ h : i + 1 < s.size, hasB ⟨#[33, 94]⟩ (s[i + 1]'h) = false ∧ ∃ j0 : Nat, (i : Int) + 1 = (j0 : Int) ∧ j0 ≤ s.size ∧ brTold s i = toldOf s (startD s j0)) := by
    by_cases h1 : i + 1 < s.size
    · cases hb : hasB ⟨#[33, 94]⟩ (s[i + 1]'h1) with
      | true => exact .inr (.inl ⟨by omega, h1, hb, i + 2, by omega, by omega, told_yes hi hc (by rw [turned_has h1, hb])⟩)
      | false => exact .inr (.inr ⟨by omega, h1, hb, i + 1, by omega, by omega, told_no hi hc (by rw [turned_has h1, hb])⟩)
    · exact .inl ⟨by omega, i + 1, by omega, by omega, told_no hi hc (turned_end (by omega))⟩
  clear hc
  rcases hstart with ⟨h1, j0, hj0, hjs, hT⟩ | ⟨h1, h2, hb, j0, hj0, hjs, hT⟩ | ⟨h1, h2, hb, j0, hj0, hjs, hT⟩
  case' inl =>
    have HJ0 := hide hj0
    have HT := hide hT
    have HS := hide (start_st (w := w) hjs)
    clear hj0 hT hjs
    go_enter Tryd.func32, Tryd.ntmps32
    go_wp2
    clear h1
  case' inr.inl =>
    have HJ0 := hide hj0
    have HT := hide hT
    have HS := hide (start_st (w := w) hjs)
    have HHAS := hide (rhas_any ⟨#[33, 94]⟩ (s[i + 1]'h2) w (by decide))
    have HBB := hide hb
    clear hj0 hT hjs hb
    go_enter Tryd.func32, Tryd.ntmps32
    go_wp2_with (go_at_call 42; refine HHAS.out.mono ?_; rintro e w2 ⟨rfl, hw⟩; rw [hw, HBB.out]; clear hw)
    clear HHAS HBB
  case' inr.inr =>
    have HJ0 := hide hj0
    have HT := hide hT
    have HS := hide (start_st (w := w) hjs)
    have HHAS := hide (rhas_any ⟨#[33, 94]⟩ (s[i + 1]'h2) w (by decide))
    have HBB := hide hb
    clear hj0 hT hjs hb
    go_enter Tryd.func32, Tryd.ntmps32
    go_wp2_with (go_at_call 42; refine HHAS.out.mono ?_; rintro e w2 ⟨rfl, hw⟩; rw [hw, HBB.out]; clear hw)
    clear HHAS HBB
  all_goals
    obtain ⟨R, hR⟩ : ∃ R, startD s j0 = R := ⟨_, rfl⟩
    rw [hR] at HT HS
    clear hR
    go_loopw [1, 12, 13, 14] (fun iv sv bv fv wr => ∃ (j : Nat) (set : ByteArray) (k first : Bool), iv = .int .i64 (j : Int) ∧ sv = .string set ∧ bv = .bool (!k) ∧ fv = .bool first ∧ BrSt s R w j set k first wr) (fun iv _ _ _ _ => s.size - (intOf iv).toNat)
    case atStart => exact ⟨j0, ⟨#[]⟩, true, true, by rw [HJ0.out], rfl, rfl, rfl, HS.out⟩
    case round =>
      obtain ⟨j, set, k, first, rfl, rfl, rfl, rfl, hst⟩ := hrel
      have hset : set.size ≤ 60000 := by obtain ⟨_, _, h1, _, _, h4, _⟩ := hst; omega
      have hbw : Below w.heap.size w wr := hst.choose_spec.choose_spec.2.2.2.2
      have HST := hide hst
      have HBW := hide hbw
      clear hst hbw HS HJ0
      by_cases hj : j < s.size
      case neg =>
        have hjI : ¬ ((j : Int) < (s.size : Int)) := by omega
        have hjI2 : (s.size : Int) ≤ (j : Int) := by omega
        have HN := hide (ans_none HT.out (HST.out.over hj))
        go_wp2
        exact br_ret s i _ _ _ _ _ w _ rfl rfl rfl HN.out rfl (by decide) HBW.out
      have hjI : (j : Int) < (s.size : Int) := by omega
      have hjI2 : ¬ ((s.size : Int) ≤ (j : Int)) := by omega
      by_cases hend : s[j]'hj = 93 ∧ first = false
      · obtain ⟨he, rfl⟩ := hend
        have heb := n_yes he (x := 93) rfl
        have HA := hide (fun set => ans_some HT.out (HST.out.end_ hj he) set)
        clear he
        go_wp2_with fail
        first
          | exact br_ret s i set _ _ _ _ w _ rfl rfl rfl (HA.out set) rfl (by omega) HBW.out
          | (refine (all_any wr).mono ?_
             rintro e w2 ⟨t, rfl, ht, b2⟩
             go_wp2_with fail
             refine (without_any t set w2 (by omega) (by omega)).mono ?_
             rintro e w3 ⟨u, rfl, hu, b3⟩
             go_wp2
             exact br_ret s i u _ _ _ _ w _ rfl rfl rfl (HA.out u) rfl (by omega) (HBW.out.trans ((b2.trans (b3.mono b2.size)).mono HBW.out.size)))
      · have hcc : s[j]'hj ≠ 93 ∨ first = true := by
          cases first with
          | true => exact .inr rfl
          | false => exact .inl (fun e => hend ⟨e, rfl⟩)
        have HSTEP : Hid (∀ (j' : Nat) (set' : ByteArray) (k' : Bool) (wr' : World), (∀ S, ∃ S', partD true (s.data.toList.drop j) S k = ⟨S', k', s.data.toList.drop j'⟩) → j < j' → j' ≤ s.size → set'.size ≤ set.size + 300 → Below w.heap.size w wr' → BrSt s R w j' set' k' false wr') := fun j' set' k' wr' h1 h2 h3 h4 h5 => HST.out.step hj hcc h1 h2 h3 h4 h5
        have HSTUCK : Hid ((∀ S, ∃ S', partD true (s.data.toList.drop j) S k = ⟨S', k, []⟩) → brAns ⟨#[]⟩ (brTold s i) = .tuple #[.string ⟨#[]⟩, .int .i64 (-1), .bool false]) := fun h1 => ans_none HT.out (HST.out.stuck hj hcc h1)
        have hfirst : first = true ∨ (first = false ∧ (((s[j]'hj).toNat : Int) != 93) = true) := by
          cases first with
          | true => exact .inl rfl
          | false => exact .inr ⟨rfl, n_no (fun e => hend ⟨e, rfl⟩) rfl⟩
        clear hcc hend HST HT
        have hca := classAt_any s j wr hs hj
        unfold clAns at hca
        cases hn : nameAt s j with
        | some n =>
          rw [hn] at hca
          have hnl := className_len hn
          rw [List.length_drop, len_list] at hnl
          obtain ⟨m, hm⟩ : ∃ m, j + n.length + 4 = m := ⟨_, rfl⟩
          simp only [hm] at hca
          have hmI : (0 : Int) ≤ (m : Int) := by omega
          have hcl : Calls Tryd.prog 52 #[.string ⟨n.toArray⟩] wr fun e w' => ∃ t : ByteArray, e = .returned (.tuple #[.string t, .bool (classD n).isSome]) ∧ t.size ≤ 300 ∧ Below wr.heap.size wr w' := rclass_any ⟨n.toArray⟩ wr
          have HP : Hid (∀ S, ∃ S', partD true (s.data.toList.drop j) S k = ⟨S', k && (classD n).isSome, s.data.toList.drop m⟩) := fun S => by
            obtain ⟨S', h⟩ := partD_class S k hn
            rw [List.drop_drop] at h
            have e : j + (n.length + 4) = m := by omega
            rw [e] at h
            exact ⟨S', h⟩
          have hjm : j < m := by omega
          have hms : m ≤ s.size := by omega
          obtain ⟨ok, hok⟩ : ∃ ok, (classD n).isSome = ok := ⟨_, rfl⟩
          rw [hok] at hcl HP
          have HCA := hide hca
          have HCL := hide hcl
          clear hca hcl hn hnl hm hok
          rcases hfirst with rfl | ⟨rfl, hne⟩
          all_goals
            cases k
            all_goals
              go_wp2_with fail
              refine HCA.out.mono ?_
              rintro e w2 ⟨rfl, hw⟩
              rw [hw]
              clear hw w2
              go_wp2_with fail
              refine HCL.out.mono ?_
              rintro e w2 ⟨t, rfl, ht, b2⟩
              go_wp2
              go_roundw
              case rel => exact ⟨m, set ++ t, _, false, rfl, rfl, rfl, rfl, HSTEP.out m (set ++ t) _ w2 HP.out hjm hms (by rw [ByteArray.size_append]; omega) (HBW.out.trans (b2.mono HBW.out.size))⟩
              case measure => simp [intOf]; omega
        | none =>
          rw [hn] at hca
          have HCA := hide hca
          have HIT := hide (ritem_any s j wr hs hj)
          clear hca
          have HN := hide hn
          clear hn
          rcases hfirst with rfl | ⟨rfl, hne⟩
          all_goals
            go_wp2_with fail
            refine HCA.out.mono ?_
            rintro e w2 ⟨rfl, hw⟩
            rw [hw]
            clear hw w2
            go_wp2_with fail
            refine HIT.out.mono ?_
            rintro e w2 ⟨hw, ⟨c, p, rfl, hp1, hp2, hit⟩ | ⟨rfl, hd⟩⟩
            · rw [hw]
              clear hw w2 HIT HCA
              have hpI : ¬ ((p : Int) < 0) := by omega
              by_cases hr : rangeD (s.data.toList.drop p) = true
              · obtain ⟨g1, g2, g3⟩ := rangeD_at.1 hr
                have g1I : (p : Int) + 1 < (s.size : Int) := by omega
                have gpI : (p : Int) < (s.size : Int) := by omega
                have g2b := b_yes g2 (x := 45) rfl
                have g3b := n_no g3 (x := 93) rfl
                have hit2 := ritem_any s (p + 1) wr hs g1
                have e1 : ((p + 1 : Nat) : Int) = (p : Int) + 1 := by omega
                rw [e1] at hit2
                have HIT2 := hide hit2
                have HR := hide hr
                have HI := hide hit
                clear hit2 hr hit g2 g3 e1
                go_wp2_with fail
                refine HIT2.out.mono ?_
                rintro e w2 ⟨hw, ⟨c2, q, rfl, hq1, hq2, hitq⟩ | ⟨rfl, hd⟩⟩
                · rw [hw]
                  clear hw w2 HIT2
                  have hqI : ¬ ((q : Int) < 0) := by omega
                  have HP : Hid (∀ S, ∃ S', partD true (s.data.toList.drop j) S k = ⟨S', k, s.data.toList.drop q⟩) := fun S => partD_range S k HN.out HI.out HR.out (by rw [List.tail_drop]; exact hitq)
                  clear hitq
                  go_wp2_with fail
                  refine (between_any c c2 wr).mono ?_
                  rintro e w2 ⟨t, rfl, ht, b2⟩
                  go_wp2
                  go_roundw
                  case rel => exact ⟨q, set ++ t, k, false, rfl, rfl, rfl, rfl, HSTEP.out q (set ++ t) k w2 HP.out (by omega) hq2 (by rw [ByteArray.size_append]; omega) (HBW.out.trans (b2.mono HBW.out.size))⟩
                  case measure => simp [intOf]; omega
                · rw [hw]
                  clear hw w2 HIT2
                  have HA := hide (HSTUCK.out (fun S => partD_range S k HN.out HI.out HR.out (by rw [List.tail_drop, hd]; rfl)))
                  clear hd
                  go_wp2
                  exact br_ret s i _ _ _ _ _ w _ rfl rfl rfl HA.out rfl (by decide) HBW.out
              · have hno : ¬ ((p : Int) + 1 < (s.size : Int)) ∨ ((p : Int) + 1 < (s.size : Int) ∧ (p : Int) < (s.size : Int) ∧ ∃ h : p + 1 < s.size, (((s[p]'(by omega)).toNat : Int) == 45) = false ∨ ((((s[p]'(by omega)).toNat : Int) == 45) = true ∧ (((s[p + 1]'h).toNat : Int) != 93) = false)) := by
                  by_cases g1 : p + 1 < s.size
                  · refine .inr ⟨by omega, by omega, g1, ?_⟩
                    by_cases g2 : s[p]'(by omega) = 45
                    · refine .inr ⟨b_yes g2 rfl, n_yes (d := 93) ?_ rfl⟩
                      apply Classical.byContradiction
                      intro g3
                      exact hr (rangeD_at.2 ⟨g1, g2, g3⟩)
                    · exact .inl (b_no g2 rfl)
                  · exact .inl (by omega)
                have HP : Hid (∀ S, ∃ S', partD true (s.data.toList.drop j) S k = ⟨S', k, s.data.toList.drop p⟩) := fun S => partD_item S k HN.out hit (by simpa using hr)
                clear hr hit
                rcases hno with g1 | ⟨g1, g2, _, g3 | ⟨g3, g4⟩⟩
                all_goals
                  go_wp2_with fail
                  refine (between_any c c wr).mono ?_
                  rintro e w2 ⟨t, rfl, ht, b2⟩
                  go_wp2
                  go_roundw
                  case rel => exact ⟨p, set ++ t, k, false, rfl, rfl, rfl, rfl, HSTEP.out p (set ++ t) k w2 HP.out (by omega) hp2 (by rw [ByteArray.size_append]; omega) (HBW.out.trans (b2.mono HBW.out.size))⟩
                  case measure => simp [intOf]; omega
            · rw [hw]
              clear hw w2 HIT HCA
              have HA := hide (HSTUCK.out (fun S => partD_item S k HN.out (by rw [hd]; rfl) rfl))
              go_wp2
              exact br_ret s i _ _ _ _ _ w _ rfl rfl rfl HA.out rfl (by decide) HBW.out
end Go.Proofs.YtiekhoehkgmbjaaDoor
