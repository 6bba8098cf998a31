/- The reference's Print. -/
import Derived.Test.YtaepamaloepkbaaGreatDoorPrWay
namespace Go.Proofs.YtaepamaloepkbaaGreatDoor
open Go.RowKit

theorem conv_byte (W : World) (x : Int) (h0 : 0 ≤ x) (h9 : x < 256) : (convert 63 9 (.slice (some ⟨W.heap.size, 0, none⟩) 1 1)).run Tryz.prog (W.alloc (.cells #[.int .u8 x] 5)) = .ok (.string (bs [UInt8.ofNat x.toNat])) (W.alloc (.cells #[.int .u8 x] 5)) := by
  refine run_convert_bytes_back _ 63 9 5 ⟨W.heap.size, 0, none⟩ 1 [UInt8.ofNat x.toNat] Tryz.underlying63 Tryz.underlying5 Tryz.underlying9 fun j hj => ?_
  have hj0 : j = 0 := by simp at hj; exact hj
  subst hj0
  have e : ((UInt8.ofNat x.toNat).toNat : Int) = x := by rw [UInt8.toNat_ofNat', Nat.mod_eq_of_lt (by omega)]; omega
  have := cell_one_new W (.int .u8 x) 5 0 _ rfl
  rw [this]
  show some (Value.int .u8 x) = some (.int .u8 ((UInt8.ofNat x.toNat).toNat : Int))
  rw [e]
/-- What is asked of the nodes that are written. -/
structure PrOk (L : List NodeD) (K : List ByteArray) : Prop where
  path : PathL L K
  len : L.length ≤ 201
  fld : ∀ (i : Nat) (n : NodeD), 0 < i → L[i]? = some n → FldOk (fldOf n)
  text : ∀ (i : Nat) (n : NodeD), L[i]? = some n → n.text.size ≤ 20000
  way : ∀ (i : Nat) (w : ByteArray), K[i]? = some w → w.size ≤ 12300
theorem fld_nums {f : FldD} (h : FldOk f) (ht : f.2.2.2.size ≤ 20000) : 0 ≤ f.2.1 ∧ f.2.1 ≤ 999999999 ∧ 0 ≤ f.2.2.1 ∧ f.2.2.1 ≤ 999999999 := by
  rcases h with ⟨_, h1, h2, _⟩ | ⟨_, h1, h2, h3⟩ | ⟨_, h1, h2, _⟩
  · omega
  · rcases h3 with ⟨_, h3, h4⟩ | ⟨_, h3⟩
    · omega
    · omega
  · omega
def pairsL (L : List NodeD) (K : List ByteArray) : List (NodeD × ByteArray) := (L.zip K).drop 1
theorem pairs_at {L : List NodeD} {K : List ByteArray} {i : Nat} {n : NodeD} {w : ByteArray} (hi : 0 < i) (hn : L[i]? = some n) (hw : K[i]? = some w) : (pairsL L K)[i - 1]? = some (n, w) := by
  unfold pairsL
  rw [List.getElem?_drop, show 1 + (i - 1) = i from by omega, List.getElem?_zip_eq_some]
  exact ⟨hn, hw⟩
theorem printL_snoc (ps : List (NodeD × ByteArray)) (p : NodeD × ByteArray) : printL (ps ++ [p]) = printL ps ++ (lineL p.1 p.2.data.toList ++ [10]) := by simp [printL]
theorem print_step {L : List NodeD} {K : List ByteArray} {i : Nat} {n : NodeD} {w : ByteArray} (hi : 0 < i) (hn : L[i]? = some n) (hw : K[i]? = some w) : printL ((pairsL L K).take i) = printL ((pairsL L K).take (i - 1)) ++ (lineL n w.data.toList ++ [10]) := by
  have h := pairs_at hi hn hw
  obtain ⟨hl, he⟩ := List.getElem?_eq_some_iff.1 h
  conv => lhs; rw [show i = i - 1 + 1 from by omega, List.take_succ_eq_append_getElem hl, he, printL_snoc]
theorem print_all {L : List NodeD} {K : List ByteArray} (hk : K.length = L.length) : printL ((pairsL L K).take (L.length - 1)) = printD L K := by
  unfold printD
  rw [List.take_of_length_le (by unfold pairsL; simp [hk])]
  rfl
theorem flds_len {n : NodeD} (h : FldOk (fldOf n)) (ht : n.text.size ≤ 20000) : ∀ p ∈ fldsL n, p.length ≤ 40000 := by
  have hn := fld_nums h ht
  have h1 : (decI n.size).length ≤ 9 := dec_le _ hn.2.1
  have h2 : (decI n.time).length ≤ 9 := dec_le _ hn.2.2.2
  have h3 : (escL n.text.data.toList).length ≤ 40000 := by
    have := esc_len n.text.data.toList
    rw [len_data] at this
    omega
  intro p hp
  unfold fldsL at hp
  split at hp
  · split at hp
    · simp at hp
      rcases hp with rfl | rfl <;> omega
    · simp at hp
      rcases hp with rfl | rfl <;> omega
  · split at hp
    · simp at hp
      subst hp; omega
    · cases hp
theorem flds_cnt (n : NodeD) : (fldsL n).length ≤ 2 := by
  unfold fldsL
  split
  · split <;> simp
  · split <;> simp
theorem sign_len (n : NodeD) : (signL n).length = 1 := by
  unfold signL
  split
  · split <;> rfl
  · split <;> rfl
theorem line_len {n : NodeD} {w : ByteArray} (h : FldOk (fldOf n)) (ht : n.text.size ≤ 20000) (hw : w.size ≤ 12300) : (lineL n w.data.toList).length ≤ 160004 := by
  have h1 := join_len9 (signL n :: w.data.toList :: fldsL n) 40000 (fun p hp => by
    simp only [List.mem_cons] at hp
    rcases hp with rfl | rfl | hp
    · rw [sign_len]; omega
    · rw [len_data]; omega
    · exact flds_len h ht p hp)
  have h2 := flds_cnt n
  simp only [List.length_cons] at h1
  unfold lineL
  refine Nat.le_trans h1 ?_
  refine Nat.le_trans (Nat.mul_le_mul_left _ (show (fldsL n).length + 1 + 1 ≤ 4 by omega)) (by omega)
theorem print_len {L : List NodeD} {K : List ByteArray} (h : PrOk L K) : ∀ j, j ≤ 200 → (printL ((pairsL L K).take j)).length ≤ 160005 * j := by
  intro j
  induction j with
  | zero => intro _; simp [printL]
  | succ j ih =>
    intro hj
    have := ih (by omega)
    by_cases hl : j < (pairsL L K).length
    · obtain ⟨p, hp⟩ : ∃ p, (pairsL L K)[j]? = some p := ⟨_, List.getElem?_eq_getElem hl⟩
      have hz := hp
      unfold pairsL at hz
      rw [List.getElem?_drop, List.getElem?_zip_eq_some] at hz
      obtain ⟨h1, h2⟩ := List.getElem?_eq_some_iff.1 hp
      rw [List.take_succ_eq_append_getElem h1, h2, printL_snoc, List.length_append, List.length_append]
      have := line_len (h.fld _ _ (by omega) hz.1) (h.text _ _ hz.1) (h.way _ _ hz.2)
      simp only [List.length_cons, List.length_nil]
      omega
    · rw [List.take_of_length_le (by omega)]
      rw [List.take_of_length_le (by omega)] at this
      omega
theorem line_d {n : NodeD} {w : ByteArray} (h : n.kind = 100 ∨ n.kind = 120) : bs (lineL n w.data.toList) = bs [UInt8.ofNat n.kind.toNat] ++ bs [9] ++ w := by
  have e : lineL n w.data.toList = [UInt8.ofNat n.kind.toNat] ++ [9] ++ w.data.toList := by
    unfold lineL
    rcases h with h | h
    · rw [(sign100 h).1, (sign100 h).2, h]; simp [Lib.join_cons, Lib.joinTail]
    · rw [(sign120 h).1, (sign120 h).2, h]; simp [Lib.join_cons, Lib.joinTail]
  rw [e, ← bs_app, ← bs_app]
  rfl
theorem line_t {n : NodeD} {w : ByteArray} (h : n.kind = 102) (ht : isTx n) : bs (lineL n w.data.toList) = bs [116, 9] ++ w ++ bs [9] ++ bs (decI n.time) ++ bs [9] ++ bs (escL n.text.data.toList) := by
  have e : lineL n w.data.toList = [116, 9] ++ w.data.toList ++ [9] ++ decI n.time ++ [9] ++ escL n.text.data.toList := by
    unfold lineL signL fldsL
    rw [if_pos h, if_pos ht, if_pos h, if_pos ht]
    simp [Lib.join_cons, Lib.joinTail]
  rw [e, ← bs_app, ← bs_app, ← bs_app, ← bs_app, ← bs_app]
  rfl
theorem line_f {n : NodeD} {w : ByteArray} (h : n.kind = 102) (ht : ¬ isTx n) : bs (lineL n w.data.toList) = bs [102] ++ bs [9] ++ w ++ bs [9] ++ bs (decI n.size) ++ bs [9] ++ bs (decI n.time) := by
  have e : lineL n w.data.toList = [102] ++ [9] ++ w.data.toList ++ [9] ++ decI n.size ++ [9] ++ decI n.time := by
    unfold lineL signL fldsL
    rw [if_pos h, if_neg ht, if_pos h, if_neg ht]
    simp [Lib.join_cons, Lib.joinTail]
  rw [e, ← bs_app, ← bs_app, ← bs_app, ← bs_app, ← bs_app, ← bs_app]
  rfl
theorem line_l {n : NodeD} {w : ByteArray} (h : n.kind = 108) : bs (lineL n w.data.toList) = bs [108] ++ bs [9] ++ w ++ bs [9] ++ bs (escL n.text.data.toList) := by
  have e : lineL n w.data.toList = [108] ++ [9] ++ w.data.toList ++ [9] ++ escL n.text.data.toList := by
    unfold lineL
    rw [(sign108 h).1, (sign108 h).2]
    simp [Lib.join_cons, Lib.joinTail]
  rw [e, ← bs_app, ← bs_app, ← bs_app, ← bs_app]
  rfl
end Go.Proofs.YtaepamaloepkbaaGreatDoor
