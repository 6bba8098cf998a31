/- Walk, plain: the lines of what a walk brings. Nothing of the program. -/
import Derived.Test.YtfemboojdablhaaGreatDoorWkA
namespace Go.Proofs.YtfemboojdablhaaGreatDoor.Tre

/-- What comes out of visits. -/
def outL (l : List Vis) : List UInt8 := l.flatMap (fun v => v.path.data.toList ++ [10])
def outS (l : List Vis) : ByteArray := bs (outL l)
theorem outL_app (a b : List Vis) : outL (a ++ b) = outL a ++ outL b := List.flatMap_append
/-- How often a text has a line. -/
def linesD (s line : ByteArray) : Nat := ((cutS 10 s).dropLast).countP (fun p => p.toList == line.toList)
/-- How many bytes 10 a text has. -/
def tensD (s : ByteArray) : Nat := s.data.toList.count 10

theorem split_flat : ∀ (ps : List (List UInt8)), (∀ p ∈ ps, (10 : UInt8) ∉ p) → splitL 10 (ps.flatMap (fun p => p ++ [10])) = ps ++ [[]] := by
  intro ps
  induction ps with
  | nil => intro _; rfl
  | cons p r ih =>
    intro h
    rw [List.flatMap_cons, List.append_assoc, List.cons_append, List.nil_append, split_hit 10 p _ (h p (by simp)), ih (fun q hq => h q (by simp [hq]))]
    rfl
theorem outL_paths (l : List Vis) : outL l = (l.map (fun v => v.path.data.toList)).flatMap (fun p => p ++ [10]) := by
  unfold outL; rw [List.flatMap_map]
theorem cut_out {l : List Vis} (h : ∀ v ∈ l, (10 : UInt8) ∉ v.path.data.toList) : cutS 10 (outS l) = l.map (fun v => v.path) ++ [bs []] := by
  unfold cutS outS
  rw [data_bs, outL_paths, split_flat _ (fun p hp => by obtain ⟨v, hv, rfl⟩ := List.mem_map.1 hp; exact h v hv), List.map_append, List.map_map]
  congr 1
theorem lines_out {l : List Vis} (h : ∀ v ∈ l, (10 : UInt8) ∉ v.path.data.toList) (x : ByteArray) : linesD (outS l) x = l.countP (fun v => v.path.toList == x.toList) := by
  unfold linesD
  rw [cut_out h, List.dropLast_concat, List.countP_map]
  rfl
theorem tens_out {l : List Vis} (h : ∀ v ∈ l, (10 : UInt8) ∉ v.path.data.toList) : tensD (outS l) = l.length := by
  unfold tensD outS
  rw [data_bs]
  induction l with
  | nil => rfl
  | cons v r ih =>
    rw [show outL (v :: r) = (v.path.data.toList ++ [10]) ++ outL r from List.flatMap_cons, List.count_append, List.count_append, List.count_eq_zero_of_not_mem (h v (by simp)), ih (fun q hq => h q (by simp [hq]))]
    simp [Nat.add_comm]

theorem joinL_free (c : UInt8) (hc : c ≠ 47) : ∀ (ps : List (List UInt8)), (∀ p ∈ ps, c ∉ p) → c ∉ joinL ps := by
  intro ps
  induction ps with
  | nil => intro _ h; cases h
  | cons p r ih =>
    intro h
    cases r with
    | nil => exact h p (by simp)
    | cons q qs =>
      simp only [joinL, List.mem_append, List.mem_cons, not_or]
      exact ⟨h p (by simp), hc, ih (fun x hx => h x (by simp [hx]))⟩
theorem nameOk_ten {s : ByteArray} (h : nameOk s = true) : (10 : UInt8) ∉ s.data.toList := by
  unfold nameOk at h
  simp only [Bool.and_eq_true] at h
  intro hm
  have := List.all_eq_true.1 h.2 10 hm
  revert this
  decide
theorem way_ten {way : ByteArray} (h : (cutS 47 way).all nameOk = true) : (10 : UInt8) ∉ way.data.toList := by
  rw [← way_names h, names_way h]
  refine joinL_free 10 (by decide) _ (fun p hp => ?_)
  have := nameOk_ten (List.all_eq_true.1 h (bs p) (List.mem_map.2 ⟨p, hp, rfl⟩))
  rw [data_bs] at this
  exact this
theorem KInv.ten {L : List NodeD} {K : List ByteArray} (h : KInv L K) (k : Nat) : (10 : UInt8) ∉ (wayB K k).data.toList := by
  unfold wayB
  cases e : K[k]? with
  | none => decide
  | some w =>
    simp only []
    rw [data_bs, List.mem_cons, not_or]
    refine ⟨by decide, ?_⟩
    rcases h.up_key e with he | hok
    · rw [he]; exact List.not_mem_nil
    · exact way_ten hok
theorem wayB_inj {L : List NodeD} {K : List ByteArray} (h : KInv L K) {i j : Nat} (hi : i < L.length) (hj : j < L.length) (e : (wayB K i).toList = (wayB K j).toList) : i = j := by
  obtain ⟨a, ha⟩ : ∃ a, K[i]? = some a := ⟨_, List.getElem?_eq_getElem (by rw [h.len]; exact hi)⟩
  obtain ⟨b, hb⟩ : ∃ b, K[j]? = some b := ⟨_, List.getElem?_eq_getElem (by rw [h.len]; exact hj)⟩
  unfold wayB at e
  rw [ha, hb] at e
  simp only [ByteArray.toList_eq, data_bs, List.cons.injEq, true_and] at e
  have : a = b := bs_inj e
  subst this
  exact h.inj ha hb
theorem lines_vis {L : List NodeD} {K : List ByteArray} (h : KInv L K) {l : List Vis} (hl : ∀ v ∈ l, v.path = wayB K v.node ∧ v.node < L.length) {k : Nat} (hk : k < L.length) : linesD (outS l) (wayB K k) = cntV k l := by
  rw [lines_out (fun v hv => by rw [(hl v hv).1]; exact h.ten _)]
  unfold cntV
  refine List.countP_congr (fun v hv => ?_)
  obtain ⟨e, hv2⟩ := hl v hv
  rw [e, beq_iff_eq, decide_eq_true_eq]
  exact ⟨fun q => wayB_inj h hv2 hk q, fun q => by rw [q]⟩
theorem tens_vis {L : List NodeD} {K : List ByteArray} (h : KInv L K) {l : List Vis} (hl : ∀ v ∈ l, v.path = wayB K v.node ∧ v.node < L.length) : tensD (outS l) = l.length :=
  tens_out (fun v hv => by rw [(hl v hv).1]; exact h.ten _)
theorem range_map (n : Nat) (f : Nat → Nat) : ((List.range (n + 1)).map f).sum = ((List.range n).map f).sum + f n := by
  rw [List.range_succ, List.map_append, List.sum_append]; simp
theorem range_one {n j : Nat} (h : j < n) : ((List.range n).map (fun k => if j = k then 1 else 0)).sum = 1 := by
  induction n with
  | zero => omega
  | succ n ih =>
    rw [range_map]
    by_cases e : j = n
    · subst e
      rw [if_pos rfl, sum_zero _ _ (fun a ha => if_neg (by have := List.mem_range.1 ha; omega))]
    · rw [if_neg e, ih (by omega)]
theorem sum_add {α : Type} (l : List α) (f g : α → Nat) : (l.map (fun a => f a + g a)).sum = (l.map f).sum + (l.map g).sum := by
  induction l with
  | nil => rfl
  | cons a r ih => simp only [List.map_cons, List.sum_cons, ih]; omega
/-- All visits are of nodes: counted by node they are all. -/
theorem cntv_all {n : Nat} {l : List Vis} (h : ∀ v ∈ l, v.node < n) : ((List.range n).map (fun k => cntV k l)).sum = l.length := by
  induction l with
  | nil => exact sum_zero _ _ (fun _ _ => rfl)
  | cons v r ih =>
    have e : ∀ k, cntV k (v :: r) = (if v.node = k then 1 else 0) + cntV k r := by
      intro k
      unfold cntV
      rw [List.countP_cons, Nat.add_comm]
      simp
    rw [show (fun k => cntV k (v :: r)) = fun k => (if v.node = k then 1 else 0) + cntV k r from funext e, sum_add, range_one (h v (by simp)), ih (fun q hq => h q (by simp [hq]))]
    simp [Nat.add_comm]

/-! ### How deep a line is -/
def deepS (s : ByteArray) : Nat := if s.toList == [47] then 0 else s.data.toList.count 47
theorem joinL_count : ∀ (ps : List (List UInt8)), ps ≠ [] → (∀ p ∈ ps, (47 : UInt8) ∉ p) → (joinL ps).count 47 + 1 = ps.length := by
  intro ps
  induction ps with
  | nil => intro h; exact absurd rfl h
  | cons p r ih =>
    intro _ h
    cases r with
    | nil => simp [joinL, List.count_eq_zero_of_not_mem (h p (by simp))]
    | cons q qs =>
      have := ih (by simp) (fun x hx => h x (by simp [hx]))
      simp only [joinL, List.count_append, List.count_cons_self, List.count_eq_zero_of_not_mem (h p (by simp)), List.length_cons] at this ⊢
      omega
theorem deep_way {L : List NodeD} {K : List ByteArray} (h : KInv L K) {k : Nat} (hk : k < L.length) : (deepS (wayB K k) : Int) = depK K k := by
  obtain ⟨w, hw⟩ : ∃ a, K[k]? = some a := ⟨_, List.getElem?_eq_getElem (by rw [h.len]; exact hk)⟩
  unfold wayB depK
  rw [hw]
  simp only []
  rcases h.up_key hw with he | hok
  · rw [names_nil he, he]
    unfold deepS
    rw [if_pos (by rw [ByteArray.toList_eq, data_bs]; rfl)]
    rfl
  · unfold deepS
    have hne := way_ne hok
    rw [if_neg (by rw [ByteArray.toList_eq, data_bs, beq_iff_eq]; intro e; simp at e; exact hne (by simpa using e)), data_bs, List.count_cons_self]
    have hc := joinL_count (namesL w) (by rw [names_way hok]; exact split_ne _ _) (by rw [names_way hok]; exact split_free _)
    rw [way_names hok] at hc
    omega

/-! ### The two laws, plain -/
/-- WalkOnce: each node's line as often as it says, and no others. -/
theorem once_plain {L : List NodeD} {K : List ByteArray} (h : KInv L K) (deep : Bool) (mx : Int) (hmx : ∀ k, k < L.length → depK K k < mx) (f : Nat) (hf : L.length < f) :
    let l := visG L deep mx f 0 (wayB K 0) (depK K 0)
    linesD (outS l) (wayB K 0) = 1 ∧ (∀ k, k < L.length → ∀ g, k ≤ g → linesD (outS l) (wayB K k) = openD L g k) ∧ tensD (outS l) = ((List.range L.length).map (fun k => openD L k k)).sum ∧ tensD (outS l) ≤ L.length := by
  intro l
  have hl : ∀ v ∈ l, v.path = wayB K v.node ∧ v.node < L.length := fun v hv => by
    obtain ⟨a, _, _, d⟩ := vis_way h f 0 v hv
    exact ⟨a, d⟩
  have hop : ∀ k, k < L.length → ∀ g, k ≤ g → cntV k l = openD L g k := fun k hk g hg => cnt_open h hmx hf g k hg hk
  have hr : cntV 0 l = 1 := by
    obtain ⟨f', rfl⟩ : ∃ f', f = f' + 1 := ⟨f - 1, by omega⟩
    exact cnt_root h hmx
  have hsum : l.length = ((List.range L.length).map (fun k => openD L k k)).sum := by
    rw [← cntv_all (n := L.length) (fun v hv => (hl v hv).2)]
    congr 1
    exact List.map_congr_left (fun k hk => hop k (List.mem_range.1 hk) k (Nat.le_refl _))
  have hle : ∀ g k, openD L g k ≤ 1 := by
    intro g
    induction g with
    | zero => intro k; exact Nat.le_refl _
    | succ g ih =>
      intro k
      unfold openD
      split
      · exact Nat.le_refl _
      · split
        · exact Nat.le_refl _
        · rename_i m _ _
          have h1 : opD L m.up.toNat ≤ 1 := by unfold opD; split <;> (try split) <;> omega
          exact Nat.le_trans (Nat.mul_le_mul h1 (ih _)) (Nat.le_refl _)
  have hlen : ∀ n, ((List.range n).map (fun k => openD L k k)).sum ≤ n := by
    intro n
    induction n with
    | zero => exact Nat.le_refl _
    | succ n ih => rw [range_map]; have := hle n n; omega
  refine ⟨?_, fun k hk g hg => ?_, ?_, ?_⟩
  · rw [lines_vis h hl h.pos]; exact hr
  · rw [lines_vis h hl hk]; exact hop k hk g hg
  · rw [tens_vis h hl]; exact hsum
  · rw [tens_vis h hl, hsum]; exact hlen _
end Go.Proofs.YtfemboojdablhaaGreatDoor.Tre
