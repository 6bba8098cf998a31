/- Merged: PrWay, PrRefP, PrRefQ. -/
import Derived.Test.YtconbmfbokpklaaGreatDoorPA
import Derived.Test.YtconbmfbokpklaaGreatDoorWPlain
/- The reference's Way; Way where there is no node. -/
namespace Go.Proofs.YtconbmfbokpklaaGreatDoor
open Go.RowKit

theorem joinL_cons {p : List UInt8} {r : List (List UInt8)} (h : r ≠ []) : joinL (p :: r) = p ++ 47 :: joinL r := by
  cases r with
  | nil => exact absurd rfl h
  | cons q qs => rfl
def gath (xs : List ByteArray) : ByteArray := bs (joinL (xs.reverse.map (fun x => x.data.toList)))
theorem gath_first (x : ByteArray) : gath [x] = x := rfl
theorem gath_next {xs : List ByteArray} (h : xs ≠ []) (x : ByteArray) : gath (xs ++ [x]) = x ++ bs [47] ++ gath xs := by
  unfold gath
  rw [List.reverse_append, List.reverse_singleton, List.singleton_append, List.map_cons, joinL_cons (by simp [h])]
  have : x = bs x.data.toList := rfl
  conv => rhs; rw [this, bs_app, bs_app]
  simp
/-- The names gathered are names. -/
def NamesOk (xs : List ByteArray) : Prop := ∀ x ∈ xs, x.data.toList ≠ [] ∧ x.size ≤ 60
theorem gath_size {xs : List ByteArray} (h : NamesOk xs) : (gath xs).size ≤ 61 * xs.length := by
  rw [← len_data]
  show (joinL _).length ≤ _
  refine Nat.le_trans (join_len _ (fun p hp => ?_)) (by simp)
  simp only [List.mem_map, List.mem_reverse] at hp
  obtain ⟨x, hx, rfl⟩ := hp
  rw [len_data]
  exact (h x hx).2
theorem gath_emp {xs : List ByteArray} (h : NamesOk xs) : (gath xs).toList.isEmpty = xs.isEmpty := by
  rw [ByteArray.toList_eq]
  cases e : xs with
  | nil => rfl
  | cons y ys =>
    have hne : xs.reverse.map (fun x => x.data.toList) ≠ [] := by rw [e]; simp
    have : joinL (xs.reverse.map (fun x => x.data.toList)) ≠ [] := by
      cases e2 : xs.reverse.map (fun x => x.data.toList) with
      | nil => exact absurd e2 hne
      | cons p r =>
        have hp : p ≠ [] := by
          have : p ∈ xs.reverse.map (fun x => x.data.toList) := by rw [e2]; simp
          simp only [List.mem_map, List.mem_reverse] at this
          obtain ⟨x, hx, rfl⟩ := this
          exact (h x hx).1
        cases r with
        | nil => exact hp
        | cons q qs => intro hh; rw [joinL_cons (by simp)] at hh; simp at hh
    rw [← e]
    show List.isEmpty (gath xs).data.toList = _
    unfold gath
    rw [data_bs]
    cases e3 : joinL (xs.reverse.map (fun x => x.data.toList)) with
    | nil => exact absurd e3 this
    | cons _ _ => rw [e]; rfl
theorem node_name {L : List NodeD} {K : List ByteArray} (hp : PathL L K) {k : Nat} {n : NodeD} (hn : L[k]? = some n) (hk : 0 < k) : n.name.data.toList ≠ [] ∧ n.name.size ≤ 60 := by
  obtain ⟨way, a, h1, h2, h3, _⟩ := hp.node k n hn hk
  have := List.all_eq_true.1 h2 _ (last_mem way)
  rw [h3]
  exact ⟨nameOk_ne this, nameOk_le this⟩
set_option maxRecDepth 100000 in
set_option maxHeartbeats 4000000 in
theorem refway_any (C : Nat) (v : Value) (L : List NodeD) (K : List ByteArray) (k : Nat) (way : ByteArray) (w : World) (hp : PathL L K) (hL : L.length ≤ 201) (h0 : 0 < k) (hk : k < L.length) (hw : K[k]? = some way) (hrow : NodeRow C w v L) :
    Calls Tryz.prog 14 #[v, .int .i64 (k : Int)] w fun e w' => e = .returned (.string way) ∧ w' = w := by
  obtain ⟨n0, hn0⟩ : ∃ n, L[k]? = some n := ⟨_, List.getElem?_eq_getElem hk⟩
  obtain ⟨a, cap, rfl⟩ := hrow.form
  obtain ⟨g, rfl⟩ : ∃ g, a = some ⟨g, 0, none⟩ := by
    obtain ⟨g, _, _, _, rfl, _⟩ := hrow.at hn0
    exact ⟨g, rfl⟩
  have hok : (cutS 47 way).all nameOk = true := by
    obtain ⟨wy, _, hwy, hok, _⟩ := hp.node k n0 hn0 h0
    rw [hw] at hwy
    cases hwy
    exact hok
  have HROW := hide hrow
  have HP := hide hp
  have HW := hide hw
  have HOK := hide hok
  clear hrow hp hw hok hn0
  go_enter Tryz.func14, Tryz.ntmps14
  go_wp2
  go_loop [1, 5, 6] (fun kv ov nv => ∃ (j n : Nat) (xs : List ByteArray), j ≤ k ∧ kv = .int .i64 j ∧ nv = .int .i64 n ∧ ov = .string (gath xs) ∧ Climb K k j xs ∧ xs.length = n ∧ n + j ≤ k ∧ NamesOk xs) (fun kv _ _ => (intOf kv).toNat)
  case atStart => exact ⟨k, 0, [], Nat.le_refl _, rfl, rfl, rfl, climb_start HW.out, rfl, by omega, fun x hx => by cases hx⟩
  case round =>
    obtain ⟨j, n, xs, hj, rfl, rfl, rfl, hcl, hxl, hnj, hok⟩ := hrel
    have hgs := gath_size hok
    have hge := gath_emp hok
    by_cases hj0 : 0 < j
    · obtain ⟨m, hm⟩ : ∃ n, L[j]? = some n := ⟨_, List.getElem?_eq_getElem (by omega)⟩
      obtain ⟨b, hub⟩ : ∃ b : Nat, m.up = (b : Int) := by
        obtain ⟨_, b, _, _, _, hub, _⟩ := HP.out.node j m hm hj0
        exact ⟨b, hub⟩
      obtain ⟨hcl2, hbj⟩ := climb_step HP.out hcl hm hj0 hub
      have hnm := node_name HP.out hm hj0
      obtain ⟨g', ka, km, kc, e, hg', _, ⟨p0, p1, p2, p3, p4, p5, p6⟩, _⟩ := HROW.out.at hm
      cases e
      rw [hub] at p2
      have HCL := hide hcl2
      have HNO : Hid (NamesOk (xs ++ [m.name])) := by
        intro x hx
        rw [List.mem_append] at hx
        rcases hx with hx | hx
        · exact hok x hx
        · simp only [List.mem_singleton] at hx; subst hx; exact hnm
      have hns := hnm.2
      have hjI : (j : Int) < (L.length : Int) := by omega
      have hnI : (n : Int) ≤ (L.length : Int) := by omega
      have hj1 : (0 : Int) < (j : Int) := by omega
      cases hx : xs.isEmpty
      · have hne : xs ≠ [] := fun e => by rw [e] at hx; cases hx
        have HG : Hid (gath (xs ++ [m.name]) = m.name ++ bs [47] ++ gath xs) := gath_next hne _
        rw [hx] at hge
        have HE := hide hge
        obtain ⟨gg, hgg⟩ : ∃ gg, gath xs = gg := ⟨_, rfl⟩
        rw [hgg] at hge hgs HG ⊢
        clear hcl hcl2 hm hub hnm hx hne hok hgg HE
        go_wp2
        go_round
        case rel => exact ⟨b, n + 1, xs ++ [m.name], by omega, rfl, by go_num, by rw [HG.out]; rfl, HCL.out, by simp; omega, by omega, HNO.out⟩
        case measure => simp [intOf]; omega
      · have hne : xs = [] := List.isEmpty_iff.1 hx
        subst hne
        have HG : Hid (gath ([] ++ [m.name]) = m.name) := rfl
        clear hcl hcl2 hm hub hnm hx hok
        go_wp2
        go_round
        case rel => exact ⟨b, n + 1, [] ++ [m.name], by omega, rfl, by go_num, by rw [HG.out], HCL.out, by rw [← hxl]; rfl, by omega, HNO.out⟩
        case measure => simp [intOf]; omega
    · obtain rfl : j = 0 := by omega
      have HEND := hide (climb_end hcl HP.out.key0 HW.out)
      have HS : Hid (gath xs = way) := by
        unfold Hid gath
        rw [← HEND.out, way_joined HOK.out]
        rfl
      have hnI : (n : Int) ≤ (L.length : Int) := by omega
      clear hcl hok hge
      go_wp2
      go_ret
      exact ⟨ret_str HS.out, rfl⟩

set_option maxHeartbeats 1000000 in
theorem refway_out (a : Option Addr) (m c : Nat) (k : Int) (w : World) (h : k ≤ 0 ∨ (m : Int) ≤ k) : Calls Tryz.prog 14 #[.slice a m c, .int .i64 k] w fun e w' => e = .returned (.string ⟨#[]⟩) ∧ w' = w := by
  have hI : (0 : Int) ≤ (m : Int) := by omega
  by_cases h0 : 0 < k
  · have h1 : ¬ k < (m : Int) := by omega
    go_enter Tryz.func14, Tryz.ntmps14
    go_wp2
    refine wp_loop_rounds 1 ?_
    rw [rounds_succ]
    go_wp2
    go_ret
    exact ⟨rfl, rfl⟩
  · go_enter Tryz.func14, Tryz.ntmps14
    go_wp2
    refine wp_loop_rounds 1 ?_
    rw [rounds_succ]
    go_wp2
    go_ret
    exact ⟨rfl, rfl⟩
theorem Tryz.strings_Join_none (a : Option Addr) (c : Nat) (sep : ByteArray) (w : World) : Calls Tryz.prog 28 #[.slice a 0 c, .string sep] w fun e w' => e = .returned (.string ⟨#[]⟩) ∧ w' = w := Any.strings_Join_none Tryz.lays156 Tryz.Builder_Extra_156 a c sep w
set_option maxHeartbeats 1000000 in
theorem way_out (a : Option Addr) (m c : Nat) (k : Int) (w : World) (h : k ≤ 0 ∨ (m : Int) ≤ k) : Calls Tryz.prog 13 #[.slice a m c, .int .i64 k] w fun e w' => e = .returned (.string ⟨#[]⟩) ∧ w' = w := by
  by_cases h0 : 0 < k
  · have h1 : ¬ k < (m : Int) := by omega
    go_enter Tryz.func13, Tryz.ntmps13
    go_wp2
    refine wp_loop_rounds 1 ?_
    rw [rounds_succ]
    go_wp2_with fail
    refine (Tryz.slices_Reverse_string_empty none 0 w).mono ?_
    rintro e w1 ⟨rfl, hw1⟩
    rw [hw1]; clear hw1
    go_wp2_with fail
    refine (Tryz.strings_Join_none none 0 _ w).mono ?_
    rintro e w1 ⟨rfl, hw1⟩
    rw [hw1]; clear hw1
    go_wp2
    go_ret
    exact ⟨rfl, rfl⟩
  · go_enter Tryz.func13, Tryz.ntmps13
    go_wp2
    refine wp_loop_rounds 1 ?_
    rw [rounds_succ]
    go_wp2_with fail
    refine (Tryz.slices_Reverse_string_empty none 0 w).mono ?_
    rintro e w1 ⟨rfl, hw1⟩
    rw [hw1]; clear hw1
    go_wp2_with fail
    refine (Tryz.strings_Join_none none 0 _ w).mono ?_
    rintro e w1 ⟨rfl, hw1⟩
    rw [hw1]; clear hw1
    go_wp2
    go_ret
    exact ⟨rfl, rfl⟩
end Go.Proofs.YtconbmfbokpklaaGreatDoor
/- The reference's Print. -/
namespace Go.Proofs.YtconbmfbokpklaaGreatDoor
open Go.RowKit

theorem conv_byte (W : World) (x : Int) (h0 : 0 ≤ x) (h9 : x < 256) : (convert 63 9 (.slice (some ⟨W.heap.size, 0, none⟩) 1 1)).run Tryz.prog (W.alloc (.cells #[.int .u8 x] 5)) = .ok (.string (bs [UInt8.ofNat x.toNat])) (W.alloc (.cells #[.int .u8 x] 5)) := by
  refine run_convert_bytes_back _ 63 9 5 ⟨W.heap.size, 0, none⟩ 1 [UInt8.ofNat x.toNat] Tryz.underlying63 Tryz.underlying5 Tryz.underlying9 fun j hj => ?_
  have hj0 : j = 0 := by simp at hj; exact hj
  subst hj0
  have e : ((UInt8.ofNat x.toNat).toNat : Int) = x := by rw [UInt8.toNat_ofNat', Nat.mod_eq_of_lt (by omega)]; omega
  have := cell_one_new W (.int .u8 x) 5 0 _ rfl
  rw [this]
  show some (Value.int .u8 x) = some (.int .u8 ((UInt8.ofNat x.toNat).toNat : Int))
  rw [e]
/-- What is asked of the nodes that are written. -/
structure PrOk (L : List NodeD) (K : List ByteArray) : Prop where
  path : PathL L K
  len : L.length ≤ 201
  fld : ∀ (i : Nat) (n : NodeD), 0 < i → L[i]? = some n → FldOk (fldOf n)
  text : ∀ (i : Nat) (n : NodeD), L[i]? = some n → n.text.size ≤ 20000
  way : ∀ (i : Nat) (w : ByteArray), K[i]? = some w → w.size ≤ 12300
theorem fld_nums {f : FldD} (h : FldOk f) (ht : f.2.2.2.size ≤ 20000) : 0 ≤ f.2.1 ∧ f.2.1 ≤ 999999999 ∧ 0 ≤ f.2.2.1 ∧ f.2.2.1 ≤ 999999999 := by
  rcases h with ⟨_, h1, h2, _⟩ | ⟨_, h1, h2, h3⟩ | ⟨_, h1, h2, _⟩
  · omega
  · rcases h3 with ⟨_, h3, h4⟩ | ⟨_, h3⟩
    · omega
    · omega
  · omega
def pairsL (L : List NodeD) (K : List ByteArray) : List (NodeD × ByteArray) := (L.zip K).drop 1
theorem pairs_at {L : List NodeD} {K : List ByteArray} {i : Nat} {n : NodeD} {w : ByteArray} (hi : 0 < i) (hn : L[i]? = some n) (hw : K[i]? = some w) : (pairsL L K)[i - 1]? = some (n, w) := by
  unfold pairsL
  rw [List.getElem?_drop, show 1 + (i - 1) = i from by omega, List.getElem?_zip_eq_some]
  exact ⟨hn, hw⟩
theorem printL_snoc (ps : List (NodeD × ByteArray)) (p : NodeD × ByteArray) : printL (ps ++ [p]) = printL ps ++ (lineL p.1 p.2.data.toList ++ [10]) := by simp [printL]
theorem print_step {L : List NodeD} {K : List ByteArray} {i : Nat} {n : NodeD} {w : ByteArray} (hi : 0 < i) (hn : L[i]? = some n) (hw : K[i]? = some w) : printL ((pairsL L K).take i) = printL ((pairsL L K).take (i - 1)) ++ (lineL n w.data.toList ++ [10]) := by
  have h := pairs_at hi hn hw
  obtain ⟨hl, he⟩ := List.getElem?_eq_some_iff.1 h
  conv => lhs; rw [show i = i - 1 + 1 from by omega, List.take_succ_eq_append_getElem hl, he, printL_snoc]
theorem print_all {L : List NodeD} {K : List ByteArray} (hk : K.length = L.length) : printL ((pairsL L K).take (L.length - 1)) = printD L K := by
  unfold printD
  rw [List.take_of_length_le (by unfold pairsL; simp [hk])]
  rfl
theorem flds_len {n : NodeD} (h : FldOk (fldOf n)) (ht : n.text.size ≤ 20000) : ∀ p ∈ fldsL n, p.length ≤ 40000 := by
  have hn := fld_nums h ht
  have h1 : (decI n.size).length ≤ 9 := dec_le _ hn.2.1
  have h2 : (decI n.time).length ≤ 9 := dec_le _ hn.2.2.2
  have h3 : (escL n.text.data.toList).length ≤ 40000 := by
    have := esc_len n.text.data.toList
    rw [len_data] at this
    omega
  intro p hp
  unfold fldsL at hp
  split at hp
  · split at hp
    · simp at hp
      rcases hp with rfl | rfl <;> omega
    · simp at hp
      rcases hp with rfl | rfl <;> omega
  · split at hp
    · simp at hp
      subst hp; omega
    · cases hp
theorem flds_cnt (n : NodeD) : (fldsL n).length ≤ 2 := by
  unfold fldsL
  split
  · split <;> simp
  · split <;> simp
theorem sign_len (n : NodeD) : (signL n).length = 1 := by
  unfold signL
  split
  · split <;> rfl
  · split <;> rfl
theorem line_len {n : NodeD} {w : ByteArray} (h : FldOk (fldOf n)) (ht : n.text.size ≤ 20000) (hw : w.size ≤ 12300) : (lineL n w.data.toList).length ≤ 160004 := by
  have h1 := join_len9 (signL n :: w.data.toList :: fldsL n) 40000 (fun p hp => by
    simp only [List.mem_cons] at hp
    rcases hp with rfl | rfl | hp
    · rw [sign_len]; omega
    · rw [len_data]; omega
    · exact flds_len h ht p hp)
  have h2 := flds_cnt n
  simp only [List.length_cons] at h1
  unfold lineL
  refine Nat.le_trans h1 ?_
  refine Nat.le_trans (Nat.mul_le_mul_left _ (show (fldsL n).length + 1 + 1 ≤ 4 by omega)) (by omega)
theorem print_len {L : List NodeD} {K : List ByteArray} (h : PrOk L K) : ∀ j, j ≤ 200 → (printL ((pairsL L K).take j)).length ≤ 160005 * j := by
  intro j
  induction j with
  | zero => intro _; simp [printL]
  | succ j ih =>
    intro hj
    have := ih (by omega)
    by_cases hl : j < (pairsL L K).length
    · obtain ⟨p, hp⟩ : ∃ p, (pairsL L K)[j]? = some p := ⟨_, List.getElem?_eq_getElem hl⟩
      have hz := hp
      unfold pairsL at hz
      rw [List.getElem?_drop, List.getElem?_zip_eq_some] at hz
      obtain ⟨h1, h2⟩ := List.getElem?_eq_some_iff.1 hp
      rw [List.take_succ_eq_append_getElem h1, h2, printL_snoc, List.length_append, List.length_append]
      have := line_len (h.fld _ _ (by omega) hz.1) (h.text _ _ hz.1) (h.way _ _ hz.2)
      simp only [List.length_cons, List.length_nil]
      omega
    · rw [List.take_of_length_le (by omega)]
      rw [List.take_of_length_le (by omega)] at this
      omega
theorem line_d {n : NodeD} {w : ByteArray} (h : n.kind = 100 ∨ n.kind = 120) : bs (lineL n w.data.toList) = bs [UInt8.ofNat n.kind.toNat] ++ bs [9] ++ w := by
  have e : lineL n w.data.toList = [UInt8.ofNat n.kind.toNat] ++ [9] ++ w.data.toList := by
    unfold lineL
    rcases h with h | h
    · rw [(sign100 h).1, (sign100 h).2, h]; simp [Lib.join_cons, Lib.joinTail]
    · rw [(sign120 h).1, (sign120 h).2, h]; simp [Lib.join_cons, Lib.joinTail]
  rw [e, ← bs_app, ← bs_app]
  rfl
theorem line_t {n : NodeD} {w : ByteArray} (h : n.kind = 102) (ht : isTx n) : bs (lineL n w.data.toList) = bs [116, 9] ++ w ++ bs [9] ++ bs (decI n.time) ++ bs [9] ++ bs (escL n.text.data.toList) := by
  have e : lineL n w.data.toList = [116, 9] ++ w.data.toList ++ [9] ++ decI n.time ++ [9] ++ escL n.text.data.toList := by
    unfold lineL signL fldsL
    rw [if_pos h, if_pos ht, if_pos h, if_pos ht]
    simp [Lib.join_cons, Lib.joinTail]
  rw [e, ← bs_app, ← bs_app, ← bs_app, ← bs_app, ← bs_app]
  rfl
theorem line_f {n : NodeD} {w : ByteArray} (h : n.kind = 102) (ht : ¬ isTx n) : bs (lineL n w.data.toList) = bs [102] ++ bs [9] ++ w ++ bs [9] ++ bs (decI n.size) ++ bs [9] ++ bs (decI n.time) := by
  have e : lineL n w.data.toList = [102] ++ [9] ++ w.data.toList ++ [9] ++ decI n.size ++ [9] ++ decI n.time := by
    unfold lineL signL fldsL
    rw [if_pos h, if_neg ht, if_pos h, if_neg ht]
    simp [Lib.join_cons, Lib.joinTail]
  rw [e, ← bs_app, ← bs_app, ← bs_app, ← bs_app, ← bs_app, ← bs_app]
  rfl
theorem line_l {n : NodeD} {w : ByteArray} (h : n.kind = 108) : bs (lineL n w.data.toList) = bs [108] ++ bs [9] ++ w ++ bs [9] ++ bs (escL n.text.data.toList) := by
  have e : lineL n w.data.toList = [108] ++ [9] ++ w.data.toList ++ [9] ++ escL n.text.data.toList := by
    unfold lineL
    rw [(sign108 h).1, (sign108 h).2]
    simp [Lib.join_cons, Lib.joinTail]
  rw [e, ← bs_app, ← bs_app, ← bs_app, ← bs_app]
  rfl
end Go.Proofs.YtconbmfbokpklaaGreatDoor
/- The reference's Print: the walk. -/
namespace Go.Proofs.YtconbmfbokpklaaGreatDoor
open Go.RowKit
set_option maxRecDepth 100000 in
set_option maxHeartbeats 4000000 in
theorem refprint_any (C : Nat) (v : Value) (L : List NodeD) (K : List ByteArray) (w : World) (hok : PrOk L K) (hrow : NodeRow C w v L) (hC : C ≤ w.heap.size) :
    Calls Tryz.prog 15 #[v] w fun e w' => e = .returned (.string (bs (printD L K))) ∧ Below w.heap.size w w' := by
  obtain ⟨a, cap, rfl⟩ := hrow.form
  have hlen := hok.len
  have HROW := hide hrow
  have HOK := hide hok
  clear hrow hok
  go_enter Tryz.func15, Tryz.ntmps15
  go_wp2
  go_loopw [3, 4] (fun ov iv wr => ∃ i : Nat, 1 ≤ i ∧ (i ≤ L.length ∨ i = 1) ∧ iv = .int .i64 i ∧ ov = .string (bs (printL ((pairsL L K).take (i - 1)))) ∧ Below w.heap.size w wr) (fun _ iv _ => L.length + 1 - (intOf iv).toNat)
  case atStart => exact ⟨1, Nat.le_refl _, .inr rfl, rfl, rfl, Below.refl _ _⟩
  case round =>
    obtain ⟨i, hi1, hi2, rfl, rfl, hbr⟩ := hrel
    by_cases hlt : i < L.length
    · obtain ⟨x, hx⟩ : ∃ x, L[i]? = some x := ⟨_, List.getElem?_eq_getElem hlt⟩
      obtain ⟨way, hway⟩ : ∃ way, K[i]? = some way := ⟨_, List.getElem?_eq_getElem (by rw [HOK.out.path.len]; exact hlt)⟩
      have hfld := HOK.out.fld i x (by omega) hx
      have htx := HOK.out.text i x hx
      have hwz := HOK.out.way i way hway
      have hnum := fld_nums hfld htx
      have hkd := kind_ok hfld
      obtain ⟨ga, ka, km, kc, rfl, hga, hca, ⟨p0, p1, p2, p3, p4, p5, p6⟩, _⟩ := (HROW.out.below (hbr.mono hC)).at hx
      have hsz := hbr.size
      have hil : (i : Int) < (L.length : Int) := by omega
      obtain ⟨oo, hoo⟩ : ∃ oo, bs (printL ((pairsL L K).take (i - 1))) = oo := ⟨_, rfl⟩
      have hos : oo.size ≤ 160005 * 200 := by
        rw [← hoo, ← len_data, data_bs]
        refine Nat.le_trans (print_len HOK.out (i - 1) (by omega)) (Nat.mul_le_mul_left _ (by omega))
      have HSTEP : Hid (bs (printL ((pairsL L K).take i)) = oo ++ bs (lineL x way.data.toList) ++ bs [10]) := by
        unfold Hid
        rw [print_step hi1 hx hway, ← hoo, ← List.append_assoc, ← bs_app, ← bs_app]
      rw [hoo]
      clear hoo
      have HWY : ∀ W, Hid (Below w.heap.size w W → Calls Tryz.prog 14 #[.slice (some ⟨ga, 0, none⟩) L.length cap, .int .i64 (i : Int)] W fun e w' => e = .returned (.string way) ∧ w' = W) := fun W hb => refway_any C _ L K i way W HOK.out.path hlen (by omega) hlt hway (HROW.out.below (hb.mono hC))
      clear hx hway
      obtain ⟨W1, hW1⟩ : ∃ W1, wr.alloc (.cells #[.int .u8 x.kind, .string x.name, .int .i64 x.up, .int .i64 x.size, .int .i64 x.time, .string x.text, .slice ka km kc] 42) = W1 := ⟨_, rfl⟩
      have hb1 : Below w.heap.size w W1 := by rw [← hW1]; exact hbr.alloc hsz _
      have hz1 : W1.heap.size = wr.heap.size + 1 := by rw [← hW1]; simp
      have hbx : W1.heap[wr.heap.size]? = some (.cells #[.int .u8 x.kind, .string x.name, .int .i64 x.up, .int .i64 x.size, .int .i64 x.time, .string x.text, .slice ka km kc] 42) := by rw [← hW1]; exact World.alloc_heap_new _ _
      have HB1 := hide hb1
      have HZ1 := hide hz1
      have HBX := hide hbx
      have HW1 := hide hW1
      obtain ⟨b0, b1, b2, b3, b4, b5, b6⟩ := box7 hbx
      have HS := hide (shown_any x.text W1 (by omega))
      clear hb1 hz1 hbx hW1 hbr
      go_wp2_with fail
      rw [HW1.out]
      refine ((unhide (HWY W1)) HB1.out).mono ?_
      rintro e ww ⟨rfl, hww⟩
      rw [hww]; clear hww
      go_wp2_with fail
      refine (unhide HS).mono ?_
      rintro e w2 ⟨rfl, hb2⟩
      have hz2 := hb2.size
      obtain ⟨tt, htt⟩ : ∃ tt, tt = bs (escL x.text.data.toList) := ⟨_, rfl⟩
      rw [← htt]
      have HTT := hide htt
      have hts : tt.size ≤ 40000 := by
        rw [htt, ← len_data, data_bs]
        have := esc_len x.text.data.toList
        rw [len_data] at this
        omega
      have hbx2 : w2.heap[wr.heap.size]? = _ := (hb2.block wr.heap.size (by rw [HZ1.out]; omega)).trans HBX.out
      obtain ⟨c0, c1, c2, c3, c4, c5, c6⟩ := box7 hbx2
      have HB2 := hide (HB1.out.trans (hb2.mono HB1.out.size))
      have HBX2 := hide hbx2
      have HZ2 : Hid (wr.heap.size < w2.heap.size) := by have := HZ1.out; unfold Hid; omega
      have HDS : Hid (Calls Tryz.prog 33 #[.int .i64 x.size] w2 fun e w' => e = .returned (.string (bs (decI x.size))) ∧ Below w2.heap.size w2 w') := by
        have := decimal_any x.size.toNat w2 (by have := hnum.2.1; have h2 : (fldOf x).2.1 = x.size := rfl; omega)
        rw [show ((x.size.toNat : Nat) : Int) = x.size from by have := hnum.1; have h2 : (fldOf x).2.1 = x.size := rfl; omega] at this
        exact this
      clear htt hb2 hbx2 b0 b1 b2 b3 b4 b5 b6 hz2
      go_wp2_with fail
      refine (unhide HDS).mono ?_
      rintro e w3 ⟨rfl, hb3⟩
      obtain ⟨ss, hss⟩ : ∃ ss, ss = bs (decI x.size) := ⟨_, rfl⟩
      rw [← hss]
      have HSS := hide hss
      have hsss : ss.size ≤ 9 := by rw [hss, ← len_data, data_bs]; exact dec_le _ hnum.2.1
      have hbx3 : w3.heap[wr.heap.size]? = _ := (hb3.block wr.heap.size HZ2.out).trans HBX2.out
      obtain ⟨d0, d1, d2, d3, d4, d5, d6⟩ := box7 hbx3
      have HB3 := hide (HB2.out.trans (hb3.mono HB2.out.size))
      have HBX3 := hide hbx3
      have HZ3 : Hid (wr.heap.size < w3.heap.size) := by have := HZ2.out; have := hb3.size; unfold Hid; omega
      have HDT : Hid (Calls Tryz.prog 33 #[.int .i64 x.time] w3 fun e w' => e = .returned (.string (bs (decI x.time))) ∧ Below w3.heap.size w3 w') := by
        have := decimal_any x.time.toNat w3 (by have := hnum.2.2.2; have h2 : (fldOf x).2.2.1 = x.time := rfl; omega)
        rw [show ((x.time.toNat : Nat) : Int) = x.time from by have := hnum.2.2.1; have h2 : (fldOf x).2.2.1 = x.time := rfl; omega] at this
        exact this
      clear hss hb3 hbx3 c0 c1 c2 c3 c4 c5 c6
      go_wp2_with fail
      refine (unhide HDT).mono ?_
      rintro e w4 ⟨rfl, hb4⟩
      obtain ⟨mm, hmm⟩ : ∃ mm, mm = bs (decI x.time) := ⟨_, rfl⟩
      rw [← hmm]
      have HMM := hide hmm
      have hmms : mm.size ≤ 9 := by rw [hmm, ← len_data, data_bs]; exact dec_le _ hnum.2.2.2
      have hbx4 : w4.heap[wr.heap.size]? = _ := (hb4.block wr.heap.size HZ3.out).trans HBX3.out
      obtain ⟨e0, e1, e2, e3, e4, e5, e6⟩ := box7 hbx4
      have HB4 := hide (HB3.out.trans (hb4.mono HB3.out.size))
      have HZ4 : Hid (wr.heap.size < w4.heap.size) := by have := HZ3.out; have := hb4.size; unfold Hid; omega
      obtain ⟨qq, W5, hqq, hcv, hbx5, hbl5⟩ : ∃ qq W5, Hid (qq = bs [UInt8.ofNat x.kind.toNat]) ∧ (convert 63 9 (.slice (some ⟨w4.heap.size, 0, none⟩) 1 1)).run Tryz.prog (w4.alloc (.cells #[.int .u8 x.kind] 5)) = .ok (.string qq) W5 ∧ W5.heap[wr.heap.size]? = some (.cells #[.int .u8 x.kind, .string x.name, .int .i64 x.up, .int .i64 x.size, .int .i64 x.time, .string x.text, .slice ka km kc] 42) ∧ Hid (Below w.heap.size w W5) :=
        ⟨_, _, rfl, conv_byte w4 x.kind (by omega) (by omega), (((Below.refl w4.heap.size w4).alloc (Nat.le_refl _) _).block wr.heap.size HZ4.out).trans hbx4, HB4.out.alloc HB4.out.size _⟩
      have hqs : qq.size = 1 := by rw [hqq.out]; rfl
      obtain ⟨f0, f1, f2, f3, f4, f5, f6⟩ := box7 hbx5
      clear hmm hb4 hbx4 d0 d1 d2 d3 d4 d5 d6 hbx5
      have HFLD := hide hfld
      have hcase : ((x.kind = 100 ∨ x.kind = 120) ∧ Hid (bs (lineL x way.data.toList) = qq ++ bs [9] ++ way)) ∨ (x.kind = 102 ∧ x.text.toList.isEmpty = false ∧ ((x.text.size : Int) == x.size) = true ∧ Hid (bs (lineL x way.data.toList) = bs [116, 9] ++ way ++ bs [9] ++ mm ++ bs [9] ++ tt)) ∨ (x.kind = 102 ∧ x.text.toList.isEmpty = true ∧ Hid (bs (lineL x way.data.toList) = qq ++ bs [9] ++ way ++ bs [9] ++ ss ++ bs [9] ++ mm)) ∨ (x.kind = 108 ∧ Hid (bs (lineL x way.data.toList) = qq ++ bs [9] ++ way ++ bs [9] ++ tt)) := by
        rcases HFLD.out with ⟨hk, _⟩ | ⟨hk, _, _, h3⟩ | ⟨hk, _⟩
        · exact .inl ⟨hk, by unfold Hid; rw [hqq.out]; exact line_d hk⟩
        · have hk' : x.kind = 102 := hk
          have hq2 : qq = bs [102] := by rw [hqq.out, hk']; rfl
          rcases h3 with ⟨e, _⟩ | ⟨e1, e2⟩
          · have e' : x.text = bs [] := e
            have hnt : ¬ isTx x := fun h => by have := h.1; rw [e'] at this; exact absurd this (by decide)
            exact .inr (.inr (.inl ⟨hk', by rw [e', ByteArray.toList_eq]; rfl, by unfold Hid; rw [hq2, HSS.out, HMM.out]; exact line_f hk' hnt⟩))
          · have e1' : 0 < x.text.size := e1
            have e2' : x.size = (x.text.size : Int) := e2
            exact .inr (.inl ⟨hk', emp_no e1', by rw [e2']; simp, by unfold Hid; rw [HMM.out, HTT.out]; exact line_t hk' ⟨e1', e2'.symm⟩⟩)
        · have hk' : x.kind = 108 := hk
          have hq2 : qq = bs [108] := by rw [hqq.out, hk']; rfl
          exact .inr (.inr (.inr ⟨hk', by unfold Hid; rw [hq2, HTT.out]; exact line_l hk'⟩))
      clear hfld hnum hkd
      rcases hcase with ⟨hk, hln⟩ | ⟨hk, hte, hsze, hln⟩ | ⟨hk, hte, hln⟩ | ⟨hk, hln⟩
      · have k102 : (x.kind == 102) = false := by rw [beq_eq_false_iff_ne]; omega
        have k108 : (x.kind == 108) = false := by rw [beq_eq_false_iff_ne]; omega
        clear hk
        go_wp2
        go_roundw
        case rel => exact ⟨i + 1, by omega, .inl (by omega), by go_num, by rw [show i + 1 - 1 = i from by omega, HSTEP.out, hln.out]; rfl, hbl5.out⟩
        case measure => simp [intOf]; omega
      · have k102 : (x.kind == 102) = true := by rw [beq_iff_eq]; exact hk
        clear hk
        go_wp2
        go_roundw
        case rel => exact ⟨i + 1, by omega, .inl (by omega), by go_num, by rw [show i + 1 - 1 = i from by omega, HSTEP.out, hln.out]; rfl, hbl5.out⟩
        case measure => simp [intOf]; omega
      · have k102 : (x.kind == 102) = true := by rw [beq_iff_eq]; exact hk
        clear hk
        go_wp2
        go_roundw
        case rel => exact ⟨i + 1, by omega, .inl (by omega), by go_num, by rw [show i + 1 - 1 = i from by omega, HSTEP.out, hln.out]; rfl, hbl5.out⟩
        case measure => simp [intOf]; omega
      · have k102 : (x.kind == 102) = false := by rw [beq_eq_false_iff_ne]; omega
        have k108 : (x.kind == 108) = true := by rw [beq_iff_eq]; exact hk
        clear hk
        go_wp2
        go_roundw
        case rel => exact ⟨i + 1, by omega, .inl (by omega), by go_num, by rw [show i + 1 - 1 = i from by omega, HSTEP.out, hln.out]; rfl, hbl5.out⟩
        case measure => simp [intOf]; omega
    · have HX : Hid (bs (printL ((pairsL L K).take (i - 1))) = bs (printD L K)) := by
        unfold Hid
        congr 1
        rcases hi2 with hi2 | rfl
        · obtain rfl : i = L.length := by omega
          exact print_all HOK.out.path.len
        · have e : L.length - 1 = 0 := by omega
          rw [← print_all HOK.out.path.len, e]
      have hnlt : ¬ (i : Int) < (L.length : Int) := by omega
      have HB := hide hbr
      clear hbr
      go_wp2
      go_ret
      exact ⟨ret_str HX.out, HB.out⟩
end Go.Proofs.YtconbmfbokpklaaGreatDoor
