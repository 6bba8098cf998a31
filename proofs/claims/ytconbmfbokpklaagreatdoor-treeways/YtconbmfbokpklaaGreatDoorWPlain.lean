/- Every node is found by its path, and by its name from where it is. Plain. -/
import Derived.Test.YtconbmfbokpklaaGreatDoorWFind
import Derived.Test.YtconbmfbokpklaaGreatDoorWWay
import Derived.Test.YtconbmfbokpklaaGreatDoorGLine
namespace Go.Proofs.YtconbmfbokpklaaGreatDoor
open Go.RowKit

theorem nameOk_le {s : ByteArray} (h : nameOk s = true) : s.size ≤ 60 := by
  unfold nameOk at h
  simp only [Bool.and_eq_true, decide_eq_true_eq] at h
  exact h.1.1.1.2
theorem nameOk_dots {s : ByteArray} (h : nameOk s = true) : (s.toList == [46]) = false ∧ (s.toList == [46, 46]) = false := by
  unfold nameOk at h
  simp only [Bool.and_eq_true, Bool.not_eq_true'] at h
  exact ⟨h.1.1.2, h.1.2⟩
theorem parts_ok {way : ByteArray} (h : (cutS 47 way).all nameOk = true) : partsS way = cutS 47 way := by
  unfold partsS
  rw [List.filter_eq_self]
  intro p hp
  unfold keep
  have := nameOk_ne (List.all_eq_true.1 h p hp)
  rw [ByteArray.toList_eq]
  cases e : p.data.toList with
  | nil => exact absurd e this
  | cons _ _ => rfl
theorem lastL_mem (l : List UInt8) : lastL (splitL 47 l) ∈ splitL 47 l := by
  rcases snoc_cases (splitL 47 l) with e | ⟨m, x, e⟩
  · exact absurd e (split_ne _ _)
  · rw [e]; simp [lastL]
theorem last_mem (way : ByteArray) : lastS way ∈ cutS 47 way := List.mem_map.2 ⟨_, lastL_mem _, rfl⟩
theorem last_free (way : ByteArray) : (47 : UInt8) ∉ (lastS way).data.toList := split_free _ _ (lastL_mem _)
theorem parts_last {way : ByteArray} (h : (cutS 47 way).all nameOk = true) : partsS (lastS way) = [lastS way] ∧ (cutS 47 (lastS way)).all nameOk = true := by
  have e : cutS 47 (lastS way) = [lastS way] := by
    unfold cutS
    rw [split_end 47 _ (last_free way)]
    rfl
  have ho := List.all_eq_true.1 h _ (last_mem way)
  have h2 : (cutS 47 (lastS way)).all nameOk = true := by rw [e]; simp [ho]
  exact ⟨(parts_ok h2).trans e, h2⟩
/-- How such a text begins and ends. -/
theorem way_ends {s : ByteArray} (h : (cutS 47 s).all nameOk = true) : ∃ h1 : 1 ≤ s.size, ¬ (s[0].toNat : Int) = 47 ∧ ((s.extract (s.size - 1) s.size).toList == [47]) = false := by
  have hne := way_ne h
  have hok := way_ok h
  have h1 : 1 ≤ s.size := by
    cases e : s.data.toList with
    | nil => exact absurd e hne
    | cons x r => rw [← len_data, e]; simp
  refine ⟨h1, ?_, ?_⟩
  · intro hc
    have hd := drop_get s 0 (by omega)
    rw [List.drop_zero] at hd
    have : s[0] = 47 := UInt8.toNat_inj.1 (by have : (47 : UInt8).toNat = 47 := rfl; omega)
    rw [this] at hd
    have := hok [] (by rw [hd, split_same]; simp)
    exact this.1 rfl
  · cases e : ((s.extract (s.size - 1) s.size).toList == [47]) with
    | false => rfl
    | true =>
      exfalso
      rw [beq_iff_eq, ByteArray.toList_eq, extract_bs, data_bs, drop_get s (s.size - 1) (by omega), show s.size - (s.size - 1) = 1 from by omega] at e
      simp only [List.take_succ_cons, List.take_zero, List.cons.injEq, and_true] at e
      have hsp : s.data.toList = s.data.toList.take (s.size - 1) ++ 47 :: [] := by
        conv => lhs; rw [← List.take_append_drop (s.size - 1) s.data.toList, drop_get s (s.size - 1) (by omega), e]
        rw [show s.size - 1 + 1 = s.size from by omega, List.drop_of_length_le (by rw [len_data]; exact Nat.le_refl _)]
      have := hok [] (by rw [hsp, split_cat]; simp [splitL])
      exact this.1 rfl
theorem join_len : ∀ (ps : List (List UInt8)), (∀ p ∈ ps, p.length ≤ 60) → (joinL ps).length ≤ 61 * ps.length := by
  intro ps
  induction ps with
  | nil => intro _; simp [joinL]
  | cons p r ih =>
    intro h
    have h1 := h p (by simp)
    have h2 := ih (fun x hx => h x (by simp [hx]))
    cases r with
    | nil => simp [joinL]; omega
    | cons q qs => simp only [joinL, List.length_append, List.length_cons] at h2 ⊢; omega
theorem way_size {s : ByteArray} (h : (cutS 47 s).all nameOk = true) {k : Nat} (hk : (namesL s).length ≤ k) : s.size ≤ 61 * k := by
  rw [← len_data, ← way_joined h]
  refine Nat.le_trans (join_len _ (fun p hp => ?_)) (by omega)
  rw [names_way h] at hp
  have := nameOk_le (List.all_eq_true.1 h (bs p) (List.mem_map.2 ⟨p, hp, rfl⟩))
  rw [← len_data, data_bs] at this
  exact this

/-- What a node of the tree is to its directory. -/
structure KidOn (L : List NodeD) (i a : Nat) (name : ByteArray) : Prop where
  n : ∃ n, L[a]? = some n ∧ dirD n = true ∧ kidOf L n.kids name = (i : Int)
  m : ∃ m, L[i]? = some m ∧ m.name = name ∧ m.up = (a : Int)
theorem kid_on {R L : List NodeD} {K : List ByteArray} (h : KInv R K) (hs : Srt R L) {i : Nat} {m : NodeD} (hm : L[i]? = some m) (hi : 0 < i) {a : Nat} (ha : m.up = (a : Int)) : KidOn L i a m.name := by
  obtain ⟨q, hq, e, _⟩ := hs.back hm
  have hqu : q.up = (a : Int) := by rw [← ha, e]; rfl
  have hqn : q.name = m.name := by rw [e]; rfl
  obtain ⟨_, a', _, _, _, ha', hlt, _⟩ := h.node i q hq hi
  have : a' = a := by omega
  subst this
  have hil := (List.getElem?_eq_some_iff.1 hq).1
  obtain ⟨d, hd⟩ : ∃ d, R[a']? = some d := ⟨_, List.getElem?_eq_getElem (by omega)⟩
  obtain ⟨ks, hk, hp, _⟩ := hs.node a' d hd
  have hmem : i ∈ d.kids := (h.kids a' d hd i).2 ⟨hi, q, hq, hqu⟩
  have hname : nameIs R m.name i = true := nameIs_iff.2 ⟨q, hq, hqn⟩
  have hkid : kidOf R d.kids m.name = (i : Int) := kidOf_only hmem hname (fun e he hen => h.kid_only hd hmem he hname hen)
  refine ⟨⟨_, hk, ?_, ?_⟩, m, hm, rfl, ha⟩
  · have := h.dir a' d hd (fun e => by rw [e] at hmem; cases hmem)
    exact this
  · rw [hs.kid h hd hk m.name]; exact hkid
/-- The way to a node, name by name. -/
theorem chain_of {R L : List NodeD} {K : List ByteArray} (h : KInv R K) (hs : Srt R L) (hp : PathL L K) : ∀ (i : Nat) (way : ByteArray), i < L.length → K[i]? = some way → ∃ ks : Nat → Nat, ks 0 = 0 ∧ ks (namesL way).length = i ∧ (namesL way).length ≤ i ∧ ∀ (j : Nat) (p : List UInt8), (namesL way)[j]? = some p → KidOn L (ks (j + 1)) (ks j) (bs p) ∧ nameOk (bs p) = true := by
  intro i
  induction i using Nat.strongRecOn with
  | _ i ih =>
    intro way hi hw
    by_cases h0 : i = 0
    · subst h0
      rw [hp.key0] at hw
      cases hw
      exact ⟨fun _ => 0, rfl, rfl, Nat.le_refl _, fun j p hj => by simp [namesL, data_bs] at hj⟩
    · obtain ⟨m, hm⟩ : ∃ m, L[i]? = some m := ⟨_, List.getElem?_eq_getElem hi⟩
      obtain ⟨way', a, h1, h2, h3, h4, h5, h6⟩ := hp.node i m hm (by omega)
      rw [hw] at h1
      cases h1
      obtain ⟨ks, k0, kl, kle, kc⟩ := ih a h5 (upS way) (by omega) h6
      have hon := kid_on h hs hm (by omega) h4
      rw [h3] at hon
      have hnm := List.all_eq_true.1 h2 _ (last_mem way)
      have hlen : (namesL way).length = (namesL (upS way)).length + 1 := by rw [names_parts h2]; simp
      refine ⟨fun j => if j ≤ (namesL (upS way)).length then ks j else i, by simp [k0], by rw [hlen]; exact if_neg (by omega), by omega, fun j p hj => ?_⟩
      rw [names_parts h2] at hj
      by_cases hjl : j < (namesL (upS way)).length
      · rw [List.getElem?_append_left hjl] at hj
        have := kc j p hj
        simp only [show j + 1 ≤ (namesL (upS way)).length from hjl, show j ≤ (namesL (upS way)).length from by omega, if_true]
        exact this
      · rw [List.getElem?_append_right (by omega)] at hj
        have hje : j = (namesL (upS way)).length := by
          have := (List.getElem?_eq_some_iff.1 hj).1
          simp at this
          omega
        subst hje
        simp at hj
        subst hj
        simp only [show ¬ (namesL (upS way)).length + 1 ≤ (namesL (upS way)).length from by omega, Nat.le_refl, if_true, if_false]
        rw [kl]
        exact ⟨hon, hnm⟩
theorem one_of {L : List NodeD} {i a : Nat} {p : ByteArray} {th : Bool} (h : KidOn L i a p) (hn : nameOk p = true) (hth : ∀ m, L[i]? = some m → m.kind = 108 → th = false) : OneOn L a p th i := by
  obtain ⟨m, hm, _⟩ := h.m
  exact ⟨h.n, ⟨m, hm, hth m hm⟩, (nameOk_dots hn).1, (nameOk_dots hn).2⟩
theorem dir_no_link {n : NodeD} (h : dirD n = true) (hl : n.kind = 108) : False := by
  unfold dirD at h
  rw [hl] at h
  cases h
/-- A node's path leads to it. -/
theorem way_chain {R L : List NodeD} {K : List ByteArray} (h : KInv R K) (hs : Srt R L) {i : Nat} {way : ByteArray} (hi : i < L.length) (h0 : 0 < i) (hw : K[i]? = some way) : ∃ ks : Nat → Nat, ks 0 = 0 ∧ ks (partsS way).length = i ∧ ChainW L (partsS way) ks ∧ (cutS 47 way).all nameOk = true ∧ way.size ≤ 61 * i := by
  have hp := path_of h hs
  obtain ⟨ks, k0, kl, kle, kc⟩ := chain_of h hs hp i way hi hw
  obtain ⟨m, hm⟩ : ∃ m, L[i]? = some m := ⟨_, List.getElem?_eq_getElem hi⟩
  obtain ⟨way', _, h1, h2, _⟩ := hp.node i m hm h0
  rw [hw] at h1
  cases h1
  have e : partsS way = (namesL way).map bs := by rw [parts_ok h2, names_way h2]; rfl
  refine ⟨ks, k0, by rw [e, List.length_map]; exact kl, ?_, h2, way_size h2 kle⟩
  intro j p hj
  rw [e, List.getElem?_map] at hj
  cases hq : (namesL way)[j]? with
  | none => rw [hq] at hj; cases hj
  | some q =>
    rw [hq] at hj
    cases hj
    obtain ⟨c1, c2⟩ := kc j q hq
    refine one_of c1 c2 (fun m hm hk => ?_)
    rw [e, List.length_map, decide_eq_false_iff_not]
    intro hlt
    obtain ⟨q2, hq2⟩ : ∃ q2, (namesL way)[j + 1]? = some q2 := ⟨_, List.getElem?_eq_getElem (by omega)⟩
    obtain ⟨n, hn, hd, _⟩ := (kc (j + 1) q2 hq2).1.n
    rw [hm] at hn
    cases hn
    exact dir_no_link hd hk
/-- A node's name leads to it from its directory. -/
theorem name_chain {R L : List NodeD} {K : List ByteArray} (h : KInv R K) (hs : Srt R L) {i : Nat} {m : NodeD} (hm : L[i]? = some m) (h0 : 0 < i) : ∃ a : Nat, m.up = (a : Int) ∧ a < L.length ∧ partsS m.name = [m.name] ∧ ChainW L (partsS m.name) (fun j => if j = 0 then a else i) ∧ (cutS 47 m.name).all nameOk = true ∧ m.name.size ≤ 60 := by
  have hp := path_of h hs
  have hi := (List.getElem?_eq_some_iff.1 hm).1
  obtain ⟨way, a, h1, h2, h3, h4, h5, h6⟩ := hp.node i m hm h0
  have hon := kid_on h hs hm h0 h4
  obtain ⟨e1, e2⟩ := parts_last h2
  rw [← h3] at e1 e2
  have hn : nameOk m.name = true := by rw [h3]; exact List.all_eq_true.1 h2 _ (last_mem way)
  refine ⟨a, h4, by omega, e1, ?_, e2, nameOk_le hn⟩
  rw [e1]
  intro j p hj
  have hj0 : j = 0 := by
    have := (List.getElem?_eq_some_iff.1 hj).1
    simp at this
    omega
  subst hj0
  simp at hj
  subst hj
  exact one_of hon hn (fun _ _ _ => rfl)
end Go.Proofs.YtconbmfbokpklaaGreatDoor
