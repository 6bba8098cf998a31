/- Walk: the law WalkOnce, its walk. -/
import Derived.Test.YtfemboojdablhaaGreatDoorWkW
import Derived.Test.YtfemboojdablhaaGreatDoorTCopyN
namespace Go.Proofs.YtfemboojdablhaaGreatDoor.Tre
open Go.RowKit Go.Shelf

/-! ### What comes out, plain -/
theorem outW_all {mx : Int} {l : List Vis} (h : ∀ v ∈ l, mx ≤ v.depth) : outW mx (fun _ => true) l = outL l := by
  unfold outW
  have e : l.filter (selV mx (fun _ => true)) = l := List.filter_eq_self.2 (fun v hv => by unfold selV; rw [Bool.and_true]; exact decide_eq_true (h v hv))
  rw [e]
theorem way_len {L : List NodeD} {K : List ByteArray} (h : KInv L K) {k : Nat} (hk : k < L.length) : (wayB K k).data.toList.length ≤ 12300 := by
  obtain ⟨w, hw⟩ : ∃ a, K[k]? = some a := ⟨_, List.getElem?_eq_getElem (by rw [h.len]; exact hk)⟩
  have hd := dep_le h k hk
  have hl := h.lim
  unfold depK at hd
  unfold wayB
  rw [hw] at hd ⊢
  simp only [] at hd ⊢
  rw [data_bs, List.length_cons]
  rcases h.up_key hw with he | hok
  · rw [he]; simp
  · have := join_len (namesL w) (fun p hp => by
      rw [names_way hok] at hp
      have := nameOk_le (List.all_eq_true.1 hok (bs p) (List.mem_map.2 ⟨p, hp, rfl⟩))
      rw [← len_data, data_bs] at this
      exact this)
    rw [way_names hok] at this
    omega
theorem outL_len {l : List Vis} {b : Nat} (h : ∀ v ∈ l, v.path.data.toList.length ≤ b) : (outL l).length ≤ (b + 1) * l.length := by
  induction l with
  | nil => simp [outL]
  | cons v r ih =>
    have h1 := h v (by simp)
    have h2 := ih (fun q hq => h q (by simp [hq]))
    rw [show outL (v :: r) = (v.path.data.toList ++ [10]) ++ outL r from List.flatMap_cons, List.length_append, List.length_append, show (v :: r).length = r.length + 1 from rfl, Nat.mul_add, Nat.mul_one, show [(10 : UInt8)].length = 1 from rfl]
    omega
/-- The visits from the root: what is needed of them. -/
structure VisR (L : List NodeD) (K : List ByteArray) (l : List Vis) : Prop where
  at_ : ∀ v ∈ l, v.path = wayB K v.node ∧ v.depth = depK K v.node ∧ v.node < L.length
theorem vis_r {L : List NodeD} {K : List ByteArray} (h : KInv L K) (deep : Bool) (mx : Int) (f : Nat) : VisR L K (visG L deep mx f 0 ⟨#[47]⟩ 0) := by
  refine ⟨fun v hv => ?_⟩
  have hv' : v ∈ visG L deep mx f 0 (wayB K 0) (depK K 0) := by
    unfold wayB depK
    rw [h.key0]
    simp only []
    rw [names_nil rfl]
    exact hv
  obtain ⟨a, b, _, d⟩ := vis_way h f 0 v hv'
  exact ⟨a, b, d⟩
theorem way0 {L : List NodeD} {K : List ByteArray} (h : KInv L K) : wayB K 0 = ⟨#[47]⟩ ∧ depK K 0 = 0 := by
  unfold wayB depK
  rw [h.key0]
  simp only []
  rw [names_nil rfl]
  exact ⟨rfl, rfl⟩
theorem out_len {L : List NodeD} {K : List ByteArray} (h : KInv L K) {l : List Vis} (hl : VisR L K l) : (outL l).length ≤ 12301 * l.length :=
  outL_len (fun v hv => by obtain ⟨e, _, hn⟩ := hl.at_ v hv; rw [e]; exact way_len h hn)
theorem dep_mx {L : List NodeD} {K : List ByteArray} (h : KInv L K) : ∀ k, k < L.length → depK K k < 1000 := fun k hk => by
  have := dep_le h k hk
  have := h.lim
  omega
/-- Open as the law counts it. -/
def opn (L : List NodeD) (k : Nat) : Nat := openD L k k
theorem once_r {L : List NodeD} {K : List ByteArray} (h : KInv L K) (deep : Bool) :
    let l := visG L deep 1000 (L.length + 1) 0 ⟨#[47]⟩ 0
    linesD (outS l) ⟨#[47]⟩ = 1 ∧ (∀ k, k < L.length → linesD (outS l) (wayB K k) = opn L k) ∧ tensD (outS l) = ((List.range L.length).map (opn L)).sum ∧ tensD (outS l) ≤ L.length ∧ l.length ≤ L.length ∧ VisR L K l := by
  intro l
  have e := way0 h
  have ho := once_plain h deep 1000 (dep_mx h) (L.length + 1) (by omega)
  rw [e.1, e.2] at ho
  have hr := vis_r h deep 1000 (L.length + 1)
  have ht : tensD (outS l) = l.length := tens_vis h (fun v hv => ⟨(hr.at_ v hv).1, (hr.at_ v hv).2.2⟩)
  refine ⟨ho.1, fun k hk => ho.2.1 k hk k (Nat.le_refl _), ho.2.2.1, ho.2.2.2, ?_, hr⟩
  rw [← ht]
  exact ho.2.2.2
theorem openD_mono {L : List NodeD} {K : List ByteArray} (h : KInv L K) {k g : Nat} (hk : k < L.length) (hg : k ≤ g) : openD L g k = opn L k := by
  rw [← cnt_open h (deep := false) (dep_mx h) (Nat.lt_succ_self L.length) g k hg hk]
  exact cnt_open h (deep := false) (dep_mx h) (Nat.lt_succ_self L.length) k k (Nat.le_refl _) hk
theorem opn_zero (L : List NodeD) : opn L 0 = 1 := rfl
theorem opn_step {L : List NodeD} {K : List ByteArray} (h : KInv L K) {k a : Nat} {m : NodeD} (hm : L[k]? = some m) (h0 : 0 < k) (ha : m.up = (a : Int)) : opn L k = opD L a * opn L a := by
  obtain ⟨k', rfl⟩ : ∃ k', k = k' + 1 := ⟨k - 1, by omega⟩
  obtain ⟨_, a', _, _, _, h4, h5, _⟩ := h.node _ m hm h0
  have hl := (List.getElem?_eq_some_iff.1 hm).1
  have : a' = a := by omega
  subst this
  show openD L (k' + 1) (k' + 1) = _
  unfold openD
  rw [hm]
  simp only []
  rw [if_neg (by omega), show m.up.toNat = a' from by omega, openD_mono h (by omega) (by omega)]
theorem openD_le (L : List NodeD) : ∀ g k, openD L g k ≤ 1 := by
  intro g
  induction g with
  | zero => intro k; exact Nat.le_refl _
  | succ g ih =>
    intro k
    unfold openD
    split
    · exact Nat.le_refl _
    · split
      · exact Nat.le_refl _
      · rename_i m _ _
        have h1 : opD L m.up.toNat ≤ 1 := by unfold opD; split <;> (try split) <;> omega
        exact Nat.le_trans (Nat.mul_le_mul h1 (ih _)) (Nat.le_refl _)
theorem sum_opn (L : List NodeD) : ∀ n, ((List.range n).map (opn L)).sum ≤ n := by
  intro n
  induction n with
  | zero => exact Nat.le_refl _
  | succ n ih => rw [range_map]; have := openD_le L n n; unfold opn at ih ⊢; omega
/-- The climb of the law: what it has seen so far. -/
def Seen (L : List NodeD) (k o : Nat) (u : Int) : Prop := o ≤ 1 ∧ ((u = -1 ∧ o = opn L k) ∨ ∃ a : Nat, u = (a : Int) ∧ a < L.length ∧ o * (opD L a * opn L a) = opn L k)
theorem seen_start {L : List NodeD} {K : List ByteArray} (h : KInv L K) {k a : Nat} {m : NodeD} (hm : L[k]? = some m) (h0 : 0 < k) (ha : m.up = (a : Int)) : Seen L k 1 m.up := by
  obtain ⟨_, a', _, _, _, h4, h5, _⟩ := h.node _ m hm h0
  have hl := (List.getElem?_eq_some_iff.1 hm).1
  exact ⟨Nat.le_refl _, .inr ⟨a, ha, by omega, by rw [Nat.one_mul, opn_step h hm h0 ha]⟩⟩
theorem seen_step {L : List NodeD} {K : List ByteArray} (h : KInv L K) {k o a : Nat} {m : NodeD} (hs : o ≤ 1 ∧ o * (opD L a * opn L a) = opn L k) (hm : L[a]? = some m) : Seen L k (if m.kind = 120 then 0 else o) m.up ∧ (m.up < (a : Int)) ∧ -1 ≤ m.up := by
  have hl := (List.getElem?_eq_some_iff.1 hm).1
  have hop : opD L a = if m.kind = 120 then 0 else 1 := by unfold opD; rw [hm]
  by_cases h0 : a = 0
  · subst h0
    obtain ⟨r1, _⟩ := h.root m hm
    refine ⟨⟨by split <;> omega, .inl ⟨r1, ?_⟩⟩, by omega, by omega⟩
    rw [← hs.2, hop, opn_zero]
    split <;> simp
  · obtain ⟨_, a', _, _, _, h4, h5, _⟩ := h.node _ m hm (by omega)
    have hst := opn_step h hm (by omega) h4
    refine ⟨⟨by split <;> omega, .inr ⟨a', h4, by omega, ?_⟩⟩, by omega, by omega⟩
    rw [← hst, ← hs.2, hop]
    split <;> simp
theorem ten_take {s : ByteArray} {k : Nat} (hk : k < s.size) : (s.data.toList.take (k + 1)).count 10 = (s.data.toList.take k).count 10 + if s[k] = 10 then 1 else 0 := by
  have hl : k < s.data.toList.length := by rw [len_data]; exact hk
  rw [List.take_succ_eq_append_getElem hl, List.count_append]
  congr 1
  have e : s.data.toList[k] = s[k] := by simp [ByteArray.getElem_eq_getElem_data]
  rw [e, List.count_singleton]
  by_cases h : s[k] = 10
  · simp [h]
  · simp [h]
end Go.Proofs.YtfemboojdablhaaGreatDoor.Tre
