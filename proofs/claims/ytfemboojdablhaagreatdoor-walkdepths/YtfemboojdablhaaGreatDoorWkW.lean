/- Walk: the path of a node, by the document. -/
import Derived.Test.YtfemboojdablhaaGreatDoorWkV
namespace Go.Proofs.YtfemboojdablhaaGreatDoor.Tre
open Go.RowKit Go.Shelf

/-- The nodes L have the paths K. -/
structure PathL (L : List NodeD) (K : List ByteArray) : Prop where
  len : K.length = L.length
  key0 : K[0]? = some (bs [])
  node : ∀ (i : Nat) (n : NodeD), L[i]? = some n → 0 < i → ∃ (way : ByteArray) (a : Nat), K[i]? = some way ∧ (cutS 47 way).all nameOk = true ∧ n.name = lastS way ∧ n.up = (a : Int) ∧ a < i ∧ K[a]? = some (upS way)
/-- What the climb has gathered. -/
def Climb (K : List ByteArray) (k0 k : Nat) (xs : List ByteArray) : Prop := ∃ w0 w, K[k0]? = some w0 ∧ K[k]? = some w ∧ namesL w0 = namesL w ++ xs.reverse.map (fun x => x.data.toList)
theorem climb_start {K : List ByteArray} {k : Nat} {w : ByteArray} (h : K[k]? = some w) : Climb K k k [] := ⟨w, w, h, h, by simp⟩
theorem climb_step {L : List NodeD} {K : List ByteArray} (hp : PathL L K) {k0 k a : Nat} {xs : List ByteArray} {n : NodeD} (h : Climb K k0 k xs) (hn : L[k]? = some n) (hk : 0 < k) (ha : n.up = (a : Int)) : Climb K k0 a (xs ++ [n.name]) ∧ a < k := by
  obtain ⟨w0, w, h0, h1, e⟩ := h
  obtain ⟨way, a', h2, h3, h4, h5, h6, h7⟩ := hp.node k n hn hk
  rw [h1] at h2
  cases h2
  have : a' = a := by omega
  subst this
  refine ⟨⟨w0, _, h0, h7, ?_⟩, h6⟩
  rw [e, names_parts h3, h4]
  simp
theorem climb_end {K : List ByteArray} {k0 : Nat} {xs : List ByteArray} {w0 : ByteArray} (h : Climb K k0 0 xs) (h0 : K[0]? = some (bs [])) (hw : K[k0]? = some w0) : namesL w0 = xs.reverse.map (fun x => x.data.toList) := by
  obtain ⟨w1, w, h1, h2, e⟩ := h
  rw [h0] at h2
  cases h2
  rw [hw] at h1
  cases h1
  rw [e]
  rfl
theorem way_joined {w : ByteArray} (h : (cutS 47 w).all nameOk = true) : joinL (namesL w) = w.data.toList := by
  rw [names_way h, join_split]
theorem nameOk_le {s : ByteArray} (h : nameOk s = true) : s.size ≤ 60 := by
  unfold nameOk at h
  simp only [Bool.and_eq_true, decide_eq_true_eq] at h
  exact h.1.1.1.2
theorem lastL_mem (l : List UInt8) : lastL (splitL 47 l) ∈ splitL 47 l := by
  rcases snoc_cases (splitL 47 l) with e | ⟨m, x, e⟩
  · exact absurd e (split_ne _ _)
  · rw [e]; simp [lastL]
theorem last_mem (way : ByteArray) : lastS way ∈ cutS 47 way := List.mem_map.2 ⟨_, lastL_mem _, rfl⟩
theorem join_len : ∀ (ps : List (List UInt8)), (∀ p ∈ ps, p.length ≤ 60) → (joinL ps).length ≤ 61 * ps.length := by
  intro ps
  induction ps with
  | nil => intro _; simp [joinL]
  | cons p r ih =>
    intro h
    have h1 := h p (by simp)
    have h2 := ih (fun x hx => h x (by simp [hx]))
    cases r with
    | nil => simp [joinL]; omega
    | cons q qs => simp only [joinL, List.length_append, List.length_cons] at h2 ⊢; omega
theorem joinL_cons {p : List UInt8} {r : List (List UInt8)} (h : r ≠ []) : joinL (p :: r) = p ++ 47 :: joinL r := by
  cases r with
  | nil => exact absurd rfl h
  | cons q qs => rfl
def gath (xs : List ByteArray) : ByteArray := bs (joinL (xs.reverse.map (fun x => x.data.toList)))
theorem gath_first (x : ByteArray) : gath [x] = x := rfl
theorem gath_next {xs : List ByteArray} (h : xs ≠ []) (x : ByteArray) : gath (xs ++ [x]) = x ++ bs [47] ++ gath xs := by
  unfold gath
  rw [List.reverse_append, List.reverse_singleton, List.singleton_append, List.map_cons, joinL_cons (by simp [h])]
  have : x = bs x.data.toList := rfl
  conv => rhs; rw [this, bs_app, bs_app]
  simp
/-- The names gathered are names. -/
def NamesOk (xs : List ByteArray) : Prop := ∀ x ∈ xs, x.data.toList ≠ [] ∧ x.size ≤ 60
theorem gath_size {xs : List ByteArray} (h : NamesOk xs) : (gath xs).size ≤ 61 * xs.length := by
  rw [← len_data]
  show (joinL _).length ≤ _
  refine Nat.le_trans (join_len _ (fun p hp => ?_)) (by simp)
  simp only [List.mem_map, List.mem_reverse] at hp
  obtain ⟨x, hx, rfl⟩ := hp
  rw [len_data]
  exact (h x hx).2
theorem gath_emp {xs : List ByteArray} (h : NamesOk xs) : (gath xs).toList.isEmpty = xs.isEmpty := by
  rw [ByteArray.toList_eq]
  cases e : xs with
  | nil => rfl
  | cons y ys =>
    have hne : xs.reverse.map (fun x => x.data.toList) ≠ [] := by rw [e]; simp
    have : joinL (xs.reverse.map (fun x => x.data.toList)) ≠ [] := by
      cases e2 : xs.reverse.map (fun x => x.data.toList) with
      | nil => exact absurd e2 hne
      | cons p r =>
        have hp : p ≠ [] := by
          have : p ∈ xs.reverse.map (fun x => x.data.toList) := by rw [e2]; simp
          simp only [List.mem_map, List.mem_reverse] at this
          obtain ⟨x, hx, rfl⟩ := this
          exact (h x hx).1
        cases r with
        | nil => exact hp
        | cons q qs => intro hh; rw [joinL_cons (by simp)] at hh; simp at hh
    rw [← e]
    show List.isEmpty (gath xs).data.toList = _
    unfold gath
    rw [data_bs]
    cases e3 : joinL (xs.reverse.map (fun x => x.data.toList)) with
    | nil => exact absurd e3 this
    | cons _ _ => rw [e]; rfl
theorem node_name {L : List NodeD} {K : List ByteArray} (hp : PathL L K) {k : Nat} {n : NodeD} (hn : L[k]? = some n) (hk : 0 < k) : n.name.data.toList ≠ [] ∧ n.name.size ≤ 60 := by
  obtain ⟨way, a, h1, h2, h3, _⟩ := hp.node k n hn hk
  have := List.all_eq_true.1 h2 _ (last_mem way)
  rw [h3]
  exact ⟨nameOk_ne this, nameOk_le this⟩
set_option maxRecDepth 100000 in
set_option maxHeartbeats 4000000 in
theorem refway_any (C : Nat) (v : Value) (L : List NodeD) (K : List ByteArray) (k : Nat) (way : ByteArray) (w : World) (hp : PathL L K) (hL : L.length ≤ 201) (h0 : 0 < k) (hk : k < L.length) (hw : K[k]? = some way) (hrow : NodeRow C w v L) :
    Calls Tryz.prog 12 #[v, .int .i64 (k : Int)] w fun e w' => e = .returned (.string way) ∧ w' = w := by
  obtain ⟨n0, hn0⟩ : ∃ n, L[k]? = some n := ⟨_, List.getElem?_eq_getElem hk⟩
  obtain ⟨a, cap, rfl⟩ := hrow.form
  obtain ⟨g, rfl⟩ : ∃ g, a = some ⟨g, 0, none⟩ := by
    obtain ⟨g, _, _, _, rfl, _⟩ := hrow.at hn0
    exact ⟨g, rfl⟩
  have hok : (cutS 47 way).all nameOk = true := by
    obtain ⟨wy, _, hwy, hok, _⟩ := hp.node k n0 hn0 h0
    rw [hw] at hwy
    cases hwy
    exact hok
  have HROW := hide hrow
  have HP := hide hp
  have HW := hide hw
  have HOK := hide hok
  clear hrow hp hw hok hn0
  go_enter Tryz.func12, Tryz.ntmps12
  go_wp2
  go_loop [1, 5, 6] (fun kv ov nv => ∃ (j n : Nat) (xs : List ByteArray), j ≤ k ∧ kv = .int .i64 j ∧ nv = .int .i64 n ∧ ov = .string (gath xs) ∧ Climb K k j xs ∧ xs.length = n ∧ n + j ≤ k ∧ NamesOk xs) (fun kv _ _ => (intOf kv).toNat)
  case atStart => exact ⟨k, 0, [], Nat.le_refl _, rfl, rfl, rfl, climb_start HW.out, rfl, by omega, fun x hx => by cases hx⟩
  case round =>
    obtain ⟨j, n, xs, hj, rfl, rfl, rfl, hcl, hxl, hnj, hok⟩ := hrel
    have hgs := gath_size hok
    have hge := gath_emp hok
    by_cases hj0 : 0 < j
    · obtain ⟨m, hm⟩ : ∃ n, L[j]? = some n := ⟨_, List.getElem?_eq_getElem (by omega)⟩
      obtain ⟨b, hub⟩ : ∃ b : Nat, m.up = (b : Int) := by
        obtain ⟨_, b, _, _, _, hub, _⟩ := HP.out.node j m hm hj0
        exact ⟨b, hub⟩
      obtain ⟨hcl2, hbj⟩ := climb_step HP.out hcl hm hj0 hub
      have hnm := node_name HP.out hm hj0
      obtain ⟨g', ka, km, kc, e, hg', _, ⟨p0, p1, p2, p3, p4, p5, p6⟩, _⟩ := HROW.out.at hm
      cases e
      rw [hub] at p2
      have HCL := hide hcl2
      have HNO : Hid (NamesOk (xs ++ [m.name])) := by
        intro x hx
        rw [List.mem_append] at hx
        rcases hx with hx | hx
        · exact hok x hx
        · simp only [List.mem_singleton] at hx; subst hx; exact hnm
      have hns := hnm.2
      have hjI : (j : Int) < (L.length : Int) := by omega
      have hnI : (n : Int) ≤ (L.length : Int) := by omega
      have hj1 : (0 : Int) < (j : Int) := by omega
      cases hx : xs.isEmpty
      · have hne : xs ≠ [] := fun e => by rw [e] at hx; cases hx
        have HG : Hid (gath (xs ++ [m.name]) = m.name ++ bs [47] ++ gath xs) := gath_next hne _
        rw [hx] at hge
        have HE := hide hge
        obtain ⟨gg, hgg⟩ : ∃ gg, gath xs = gg := ⟨_, rfl⟩
        rw [hgg] at hge hgs HG ⊢
        clear hcl hcl2 hm hub hnm hx hne hok hgg HE
        go_wp2
        go_round
        case rel => exact ⟨b, n + 1, xs ++ [m.name], by omega, rfl, by go_num, by rw [HG.out]; rfl, HCL.out, by simp; omega, by omega, HNO.out⟩
        case measure => simp [intOf]; omega
      · have hne : xs = [] := List.isEmpty_iff.1 hx
        subst hne
        have HG : Hid (gath ([] ++ [m.name]) = m.name) := rfl
        clear hcl hcl2 hm hub hnm hx hok
        go_wp2
        go_round
        case rel => exact ⟨b, n + 1, [] ++ [m.name], by omega, rfl, by go_num, by rw [HG.out], HCL.out, by rw [← hxl]; rfl, by omega, HNO.out⟩
        case measure => simp [intOf]; omega
    · obtain rfl : j = 0 := by omega
      have HEND := hide (climb_end hcl HP.out.key0 HW.out)
      have HS : Hid (gath xs = way) := by
        unfold Hid gath
        rw [← HEND.out, way_joined HOK.out]
        rfl
      have hnI : (n : Int) ≤ (L.length : Int) := by omega
      clear hcl hok hge
      go_wp2
      go_ret
      exact ⟨ret_str HS.out, rfl⟩
theorem path_k {L : List NodeD} {K : List ByteArray} (h : KInv L K) : PathL L K := ⟨h.len, h.key0, h.node⟩
end Go.Proofs.YtfemboojdablhaaGreatDoor.Tre
