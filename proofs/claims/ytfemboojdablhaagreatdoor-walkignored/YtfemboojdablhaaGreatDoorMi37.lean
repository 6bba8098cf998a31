/- Merged: WkA, WkB, WkD. -/
import Derived.Test.YtfemboojdablhaaGreatDoorMi24
import Derived.Test.YtfemboojdablhaaGreatDoorMi36
import Derived.Test.YtfemboojdablhaaGreatDoorMi29
namespace Go.Proofs.YtfemboojdablhaaGreatDoor.Tre
theorem kinv_srt {R L : List NodeD} {K : List ByteArray} (h : KInv R K) (hs : Srt R L) : KInv L K := by
  refine ⟨h.len.trans hs.len.symm, by rw [hs.len]; exact h.pos, fun n hn => ?_, h.key0, fun i n hn hi => ?_, fun i n hn c => ?_, fun i n hn => ?_, h.nodup, fun i n hn hk => ?_, fun i n hn => ?_, by rw [hs.len]; exact h.lim, fun i n hn => ?_⟩
  · obtain ⟨m, hm, e, _⟩ := hs.back hn
    rw [e]; exact h.root m hm
  · obtain ⟨m, hm, e, _⟩ := hs.back hn
    obtain ⟨way, a, h1, h2, h3, h4, h5, h6⟩ := h.node i m hm hi
    exact ⟨way, a, h1, h2, by rw [e]; exact h3, by rw [e]; exact h4, h5, h6⟩
  · obtain ⟨m, hm, e, hp, _⟩ := hs.back hn
    rw [hp.mem_iff, h.kids i m hm c]
    constructor
    · rintro ⟨h0, q, hq, hu⟩
      obtain ⟨ks, hk, _⟩ := hs.node c q hq
      exact ⟨h0, _, hk, hu⟩
    · rintro ⟨h0, q, hq, hu⟩
      obtain ⟨q', hq', e', _⟩ := hs.back hq
      exact ⟨h0, q', hq', by rw [e'] at hu; exact hu⟩
  · obtain ⟨m, hm, e, hp, _⟩ := hs.back hn
    exact hp.nodup_iff.2 (h.knd i m hm)
  · obtain ⟨m, hm, e, hp, _⟩ := hs.back hn
    have := h.dir i m hm (fun e0 => hk (by rw [e0] at hp; exact hp.eq_nil))
    rw [e]; exact this
  · obtain ⟨m, hm, e, _⟩ := hs.back hn
    rw [e]; exact h.text i m hm
  · obtain ⟨m, hm, e, hp, _⟩ := hs.back hn
    rw [hp.length_eq, hs.len]; exact h.klen i m hm
def endsS (s : ByteArray) : Bool := decide (s.data.toList.getLast? = some 47)
def jn (a b : ByteArray) : ByteArray := if a.toList.isEmpty || endsS a then a ++ b else a ++ ⟨#[47]⟩ ++ b
structure Vis where
  path : ByteArray
  depth : Int
  node : Nat
def nameAt (L : List NodeD) (c : Nat) : ByteArray := match L[c]? with
  | some m => m.name
  | none => bs []
def goesB (n : NodeD) (d mx : Int) : Bool := dirD n && decide (d < mx) && !decide (n.kind = 120)
def visG (L : List NodeD) (deep : Bool) (mx : Int) : Nat → Nat → ByteArray → Int → List Vis
  | 0, _, _, _ => []
  | f + 1, k, p, d => match L[k]? with
    | none => []
    | some n =>
      let below := if goesB n d mx then n.kids.flatMap (fun c => visG L deep mx f c (jn p (nameAt L c)) (d + 1)) else []
      if deep then below ++ [⟨p, d, k⟩] else ⟨p, d, k⟩ :: below
def wayB (K : List ByteArray) (k : Nat) : ByteArray := match K[k]? with
  | some w => bs (47 :: w.data.toList)
  | none => bs [47]
def depK (K : List ByteArray) (k : Nat) : Int := match K[k]? with
  | some w => ((namesL w).length : Int)
  | none => 0
theorem bs_app (a b : List UInt8) : bs a ++ bs b = bs (a ++ b) := by
  apply bs_inj
  simp [ByteArray.data_append, bs]
theorem joinL_snoc : ∀ (ps : List (List UInt8)) (p : List UInt8), ps ≠ [] → joinL (ps ++ [p]) = joinL ps ++ 47 :: p := by
  intro ps
  induction ps with
  | nil => intro p h; exact absurd rfl h
  | cons q r ih =>
    intro p _
    cases r with
    | nil => simp [joinL]
    | cons q2 r2 =>
      have := ih p (by simp)
      simp only [List.cons_append, joinL] at this ⊢
      rw [this]; simp
theorem way_names {way : ByteArray} (h : (cutS 47 way).all nameOk = true) : joinL (namesL way) = way.data.toList := by
  rw [names_way h, join_split]
theorem names_nil {way : ByteArray} (h : way.data.toList = []) : namesL way = [] := by
  unfold namesL
  rw [h]; rfl
theorem KInv.up_key {L : List NodeD} {K : List ByteArray} (h : KInv L K) {a : Nat} {w : ByteArray} (ha : K[a]? = some w) : w.data.toList = [] ∨ (cutS 47 w).all nameOk = true := by
  obtain ⟨n, hn⟩ := h.node' ha
  by_cases h0 : a = 0
  · subst h0
    rw [h.key0] at ha
    cases ha
    exact .inl rfl
  · obtain ⟨way, _, h1, h2, _⟩ := h.node a n hn (by omega)
    rw [ha] at h1
    cases h1
    exact .inr h2
theorem way_kid {L : List NodeD} {K : List ByteArray} (h : KInv L K) {c a : Nat} {m : NodeD} (hm : L[c]? = some m) (h0 : 0 < c) (ha : m.up = (a : Int)) : jn (wayB K a) m.name = wayB K c ∧ depK K c = depK K a + 1 := by
  obtain ⟨way, a', h1, h2, h3, h4, h5, h6⟩ := h.node c m hm h0
  have : a' = a := by omega
  subst this
  have hnp := names_parts h2
  have hway := way_names h2
  refine ⟨?_, ?_⟩
  · unfold wayB
    rw [h1, h6]
    simp only []
    rcases h.up_key h6 with he | hok
    · rw [he]
      rw [names_nil he] at hnp
      rw [hnp] at hway
      simp only [List.nil_append, joinL] at hway
      unfold jn
      rw [if_pos (by rw [show endsS (bs [47]) = true from rfl, Bool.or_true]), h3]
      apply bs_inj
      rw [ByteArray.data_append, Array.toList_append, data_bs, data_bs, hway]
      rfl
    · have hne := way_ne hok
      rw [hnp, joinL_snoc _ _ (by rw [names_way hok]; exact split_ne _ _), way_names hok] at hway
      have he : endsS (bs (47 :: (upS way).data.toList)) = false := by
        unfold endsS
        rw [decide_eq_false_iff_not, data_bs]
        intro hl
        have hl' : (upS way).data.toList.getLast? = some 47 := by
          rcases snoc_cases (upS way).data.toList with e | ⟨mm, x, e⟩
          · exact absurd e hne
          · rw [e] at hl ⊢
            rw [← List.cons_append, List.getLast?_concat] at hl
            rw [List.getLast?_concat]; exact hl
        rcases snoc_cases (upS way).data.toList with e | ⟨mm, x, e⟩
        · exact absurd e hne
        · rw [e] at hl'
          simp at hl'
          subst hl'
          have hh := way_ok hok [] (by rw [e, split_cat]; simp [splitL])
          exact hh.1 rfl
      unfold jn
      rw [if_neg (by rw [he, Bool.or_false]; intro hc; rw [ByteArray.toList_eq, data_bs] at hc; cases hc), h3]
      apply bs_inj
      rw [ByteArray.data_append, Array.toList_append, ByteArray.data_append, Array.toList_append, data_bs, data_bs, ← hway]
      simp
  · unfold depK
    rw [h1, h6]
    simp only []
    rw [hnp]
    simp
theorem nameAt_of {L : List NodeD} {c : Nat} {m : NodeD} (h : L[c]? = some m) : nameAt L c = m.name := by unfold nameAt; rw [h]
def belowG (L : List NodeD) (deep : Bool) (mx : Int) (f : Nat) (n : NodeD) (p : ByteArray) (d : Int) : List Vis :=
  if goesB n d mx then n.kids.flatMap (fun c => visG L deep mx f c (jn p (nameAt L c)) (d + 1)) else []
theorem visG_some {L : List NodeD} {deep : Bool} {mx : Int} {f k : Nat} {p : ByteArray} {d : Int} {n : NodeD} (h : L[k]? = some n) : visG L deep mx (f + 1) k p d = if deep then belowG L deep mx f n p d ++ [⟨p, d, k⟩] else ⟨p, d, k⟩ :: belowG L deep mx f n p d := by
  unfold visG belowG
  rw [h]
theorem visG_none {L : List NodeD} {deep : Bool} {mx : Int} {f k : Nat} {p : ByteArray} {d : Int} (h : L[k]? = none) : visG L deep mx f k p d = [] := by
  cases f with
  | zero => rfl
  | succ f => unfold visG; rw [h]
theorem mem_vis {L : List NodeD} {deep : Bool} {mx : Int} {f k : Nat} {p : ByteArray} {d : Int} {n : NodeD} (h : L[k]? = some n) (v : Vis) : v ∈ visG L deep mx (f + 1) k p d ↔ v = ⟨p, d, k⟩ ∨ v ∈ belowG L deep mx f n p d := by
  rw [visG_some h]
  cases deep <;> simp [or_comm]
theorem mem_below {L : List NodeD} {deep : Bool} {mx : Int} {f : Nat} {p : ByteArray} {d : Int} {n : NodeD} (v : Vis) : v ∈ belowG L deep mx f n p d ↔ goesB n d mx = true ∧ ∃ c ∈ n.kids, v ∈ visG L deep mx f c (jn p (nameAt L c)) (d + 1) := by
  unfold belowG
  split
  · rename_i hg; rw [List.mem_flatMap]; simp [hg]
  · rename_i hg; simp [hg]
theorem vis_way {L : List NodeD} {K : List ByteArray} (h : KInv L K) {deep : Bool} {mx : Int} : ∀ (f k : Nat) (v : Vis), v ∈ visG L deep mx f k (wayB K k) (depK K k) → v.path = wayB K v.node ∧ v.depth = depK K v.node ∧ k ≤ v.node ∧ v.node < L.length := by
  intro f
  induction f with
  | zero => intro k v hv; cases hv
  | succ f ih =>
    intro k v hv
    cases hk : L[k]? with
    | none => rw [visG_none hk] at hv; cases hv
    | some n =>
      rw [mem_vis hk] at hv
      rcases hv with rfl | hv
      · exact ⟨rfl, rfl, Nat.le_refl _, (List.getElem?_eq_some_iff.1 hk).1⟩
      · rw [mem_below] at hv
        obtain ⟨_, c, hc, hv⟩ := hv
        obtain ⟨h0, m, hm, hu⟩ := (h.kids k n hk c).1 hc
        obtain ⟨e1, e2⟩ := way_kid h hm h0 hu
        rw [nameAt_of hm, e1, ← e2] at hv
        obtain ⟨a1, a2, a3, a4⟩ := ih c v hv
        obtain ⟨_, a', _, _, _, h4, h5, _⟩ := h.node c m hm h0
        exact ⟨a1, a2, by omega, a4⟩
theorem dep_pos (K : List ByteArray) (k : Nat) : 0 ≤ depK K k := by unfold depK; split <;> omega
theorem dep_le {L : List NodeD} {K : List ByteArray} (h : KInv L K) : ∀ (k : Nat), k < L.length → depK K k ≤ k := by
  intro k
  induction k using Nat.strongRecOn with
  | _ k ih =>
    intro hk
    by_cases h0 : k = 0
    · subst h0
      unfold depK
      rw [h.key0]
      simp only []
      rw [names_nil rfl]
      simp
    · obtain ⟨m, hm⟩ : ∃ m, L[k]? = some m := ⟨_, List.getElem?_eq_getElem hk⟩
      obtain ⟨way, a, h1, h2, h3, h4, h5, h6⟩ := h.node k m hm (by omega)
      have := (way_kid h hm (by omega) h4).2
      have := ih a h5 (by omega)
      omega
def cntV (j : Nat) (l : List Vis) : Nat := l.countP (fun v => decide (v.node = j))
theorem cnt_app (j : Nat) (a b : List Vis) : cntV j (a ++ b) = cntV j a + cntV j b := List.countP_append
theorem cnt_flat {α : Type} (j : Nat) (l : List α) (f : α → List Vis) : cntV j (l.flatMap f) = (l.map (fun c => cntV j (f c))).sum := by
  induction l with
  | nil => rfl
  | cons a r ih => rw [List.flatMap_cons, cnt_app, ih]; rfl
theorem cnt_vis {L : List NodeD} {deep : Bool} {mx : Int} {f k : Nat} {p : ByteArray} {d : Int} {n : NodeD} (h : L[k]? = some n) (j : Nat) : cntV j (visG L deep mx (f + 1) k p d) = (if k = j then 1 else 0) + cntV j (belowG L deep mx f n p d) := by
  rw [visG_some h]
  have e : cntV j [⟨p, d, k⟩] = if k = j then 1 else 0 := by unfold cntV; rw [List.countP_singleton]; simp
  cases deep
  · simp only [Bool.false_eq_true, if_false]
    rw [← e, ← cnt_app]; rfl
  · simp only [if_true]
    rw [← e, cnt_app, Nat.add_comm]
theorem cntv_zero {L : List NodeD} {K : List ByteArray} (h : KInv L K) {deep : Bool} {mx : Int} {f k j : Nat} (hj : j < k) : cntV j (visG L deep mx f k (wayB K k) (depK K k)) = 0 := by
  unfold cntV
  rw [List.countP_eq_zero]
  intro v hv
  have := (vis_way h f k v hv).2.2.1
  simp; omega
def opD (L : List NodeD) (u : Nat) : Nat := match L[u]? with
  | some n => if n.kind = 120 then 0 else 1
  | none => 0
theorem sum_zero {α : Type} (l : List α) (f : α → Nat) (h : ∀ a ∈ l, f a = 0) : (l.map f).sum = 0 := by
  induction l with
  | nil => rfl
  | cons a r ih => rw [List.map_cons, List.sum_cons, h a (by simp), ih (fun b hb => h b (by simp [hb]))]
theorem sum_mul {α : Type} (l : List α) (f g : α → Nat) (q : Nat) (h : ∀ a ∈ l, f a = q * g a) : (l.map f).sum = q * (l.map g).sum := by
  induction l with
  | nil => rfl
  | cons a r ih => rw [List.map_cons, List.sum_cons, List.map_cons, List.sum_cons, h a (by simp), ih (fun b hb => h b (by simp [hb])), Nat.mul_add]
theorem sum_one (l : List Nat) (j : Nat) (f : Nat → Nat) (hn : l.Nodup) (hj : j ∈ l) (h1 : f j = 1) (h : ∀ a ∈ l, a ≠ j → f a = 0) : (l.map f).sum = 1 := by
  induction l with
  | nil => cases hj
  | cons a r ih =>
    rw [List.map_cons, List.sum_cons]
    rw [List.nodup_cons] at hn
    by_cases e : a = j
    · subst e
      rw [h1, sum_zero r f (fun b hb => h b (by simp [hb]) (fun e => hn.1 (e ▸ hb)))]
    · rw [h a (by simp) e, Nat.zero_add]
      refine ih hn.2 ?_ (fun b hb => h b (by simp [hb]))
      rcases List.mem_cons.1 hj with e' | hj'
      · exact absurd e'.symm e
      · exact hj'
theorem cnt_below {L : List NodeD} {K : List ByteArray} (h : KInv L K) {deep : Bool} {mx : Int} {f k : Nat} {n : NodeD} (hk : L[k]? = some n) (hmx : depK K k < mx) (j : Nat) : cntV j (belowG L deep mx f n (wayB K k) (depK K k)) = opD L k * (n.kids.map (fun c => cntV j (visG L deep mx f c (wayB K c) (depK K c)))).sum := by
  unfold belowG
  have hop : opD L k = if n.kind = 120 then 0 else 1 := by unfold opD; rw [hk]
  by_cases hkd : n.kids = []
  · rw [hkd]; split <;> simp [cntV]
  · have hd := h.dir k n hk hkd
    by_cases hx : n.kind = 120
    · rw [if_neg (by unfold goesB; simp [hx]), hop, if_pos hx]; simp [cntV]
    · rw [if_pos (by unfold goesB; simp [hd, hmx, hx]), hop, if_neg hx, Nat.one_mul, cnt_flat]
      congr 1
      refine List.map_congr_left (fun c hc => ?_)
      obtain ⟨h0, m, hm, hu⟩ := (h.kids k n hk c).1 hc
      obtain ⟨e1, e2⟩ := way_kid h hm h0 hu
      rw [nameAt_of hm, e1, ← e2]
theorem cnt_up {L : List NodeD} {K : List ByteArray} (h : KInv L K) {deep : Bool} {mx : Int} (hmx : ∀ k, k < L.length → depK K k < mx) {j a : Nat} {m : NodeD} (hj : L[j]? = some m) (h0 : 0 < j) (ha : m.up = (a : Int)) :
    ∀ (f k : Nat), L.length < k + f → k < L.length → k ≠ j → cntV j (visG L deep mx f k (wayB K k) (depK K k)) = opD L a * cntV a (visG L deep mx f k (wayB K k) (depK K k)) := by
  intro f
  induction f with
  | zero => intro k h1 h2; omega
  | succ f ih =>
    intro k hf hkl hkj
    obtain ⟨n, hk⟩ : ∃ n, L[k]? = some n := ⟨_, List.getElem?_eq_getElem hkl⟩
    obtain ⟨_, a', _, _, _, h4, h5, _⟩ := h.node j m hj h0
    have : a' = a := by omega
    subst this
    have hkid : ∀ c ∈ n.kids, k < c ∧ c < L.length := by
      intro c hc
      obtain ⟨c0, mm, hm, hu⟩ := (h.kids k n hk c).1 hc
      obtain ⟨_, a2, _, _, _, q4, q5, _⟩ := h.node c mm hm c0
      have := (List.getElem?_eq_some_iff.1 hm).1
      omega
    rw [cnt_vis hk, cnt_vis hk, if_neg hkj, Nat.zero_add, cnt_below h hk (hmx k hkl), cnt_below h hk (hmx k hkl)]
    by_cases hka : k = a'
    · subst hka
      rw [if_pos rfl]
      have hz : (n.kids.map (fun c => cntV k (visG L deep mx f c (wayB K c) (depK K c)))).sum = 0 := sum_zero _ _ (fun c hc => cntv_zero h (hkid c hc).1)
      have ho : (n.kids.map (fun c => cntV j (visG L deep mx f c (wayB K c) (depK K c)))).sum = 1 := by
        refine sum_one _ j _ (h.knd k n hk) ((h.kids k n hk j).2 ⟨h0, m, hj, ha⟩) ?_ (fun c hc hne => ?_)
        · have hjl := (List.getElem?_eq_some_iff.1 hj).1
          cases f with
          | zero => have := (hkid j ((h.kids k n hk j).2 ⟨h0, m, hj, ha⟩)).1; omega
          | succ f =>
            rw [cnt_vis hj, if_pos rfl, cnt_below h hj (hmx j hjl)]
            rw [sum_zero _ _ (fun c hc => cntv_zero h ?_)]
            · rfl
            · obtain ⟨c0, mm, hm, hu⟩ := (h.kids j m hj c).1 hc
              obtain ⟨_, a2, _, _, _, q4, q5, _⟩ := h.node c mm hm c0
              omega
        · rw [ih c (by have := (hkid c hc).1; omega) (hkid c hc).2 hne, cntv_zero h (hkid c hc).1, Nat.mul_zero]
      rw [hz, ho, Nat.mul_one, Nat.mul_zero, Nat.add_zero, Nat.mul_one]
    · rw [if_neg hka, Nat.zero_add]
      rw [sum_mul n.kids (fun c => cntV j (visG L deep mx f c (wayB K c) (depK K c))) (fun c => cntV a' (visG L deep mx f c (wayB K c) (depK K c))) (opD L a') (fun c hc => ih c (by have := (hkid c hc).1; omega) (hkid c hc).2 (fun e => ?_))]
      · rw [← Nat.mul_assoc, ← Nat.mul_assoc, Nat.mul_comm (opD L k)]
      · subst e
        obtain ⟨c0, mm, hm, hu⟩ := (h.kids k n hk c).1 hc
        rw [hj] at hm; cases hm
        omega
theorem cnt_root {L : List NodeD} {K : List ByteArray} (h : KInv L K) {deep : Bool} {mx : Int} (hmx : ∀ k, k < L.length → depK K k < mx) {f : Nat} : cntV 0 (visG L deep mx (f + 1) 0 (wayB K 0) (depK K 0)) = 1 := by
  obtain ⟨n, hn⟩ : ∃ n, L[0]? = some n := ⟨_, List.getElem?_eq_getElem h.pos⟩
  rw [cnt_vis hn, if_pos rfl, cnt_below h hn (hmx 0 h.pos), sum_zero _ _ (fun c hc => cntv_zero h ((h.kids 0 n hn c).1 hc).1)]
  rfl
def openD (L : List NodeD) : Nat → Nat → Nat
  | 0, _ => 1
  | f + 1, k => match L[k]? with
    | none => 1
    | some m => if m.up < 0 then 1 else opD L m.up.toNat * openD L f m.up.toNat
theorem cnt_open {L : List NodeD} {K : List ByteArray} (h : KInv L K) {deep : Bool} {mx : Int} (hmx : ∀ k, k < L.length → depK K k < mx) {f : Nat} (hf : L.length < f) : ∀ (g j : Nat), j ≤ g → j < L.length → cntV j (visG L deep mx f 0 (wayB K 0) (depK K 0)) = openD L g j := by
  intro g
  induction g with
  | zero =>
    intro j hg hj
    have : j = 0 := by omega
    subst this
    cases f with
    | zero => omega
    | succ f => exact cnt_root h hmx
  | succ g ih =>
    intro j hg hj
    obtain ⟨m, hm⟩ : ∃ m, L[j]? = some m := ⟨_, List.getElem?_eq_getElem hj⟩
    unfold openD
    rw [hm]
    simp only []
    by_cases h0 : j = 0
    · subst h0
      have := (h.root m hm).1
      rw [if_pos (by omega)]
      cases f with
      | zero => omega
      | succ f => exact cnt_root h hmx
    · obtain ⟨_, a, _, _, _, h4, h5, _⟩ := h.node j m hm (by omega)
      rw [if_neg (by omega), cnt_up h hmx hm (by omega) h4 f 0 (by omega) h.pos (fun e => h0 e.symm), ih a (by omega) (by omega), show m.up.toNat = a from by omega]
end Go.Proofs.YtfemboojdablhaaGreatDoor.Tre
namespace Go.Proofs.YtfemboojdablhaaGreatDoor.Tre
def outL (l : List Vis) : List UInt8 := l.flatMap (fun v => v.path.data.toList ++ [10])
def outS (l : List Vis) : ByteArray := bs (outL l)
theorem outL_app (a b : List Vis) : outL (a ++ b) = outL a ++ outL b := List.flatMap_append
def linesD (s line : ByteArray) : Nat := ((cutS 10 s).dropLast).countP (fun p => p.toList == line.toList)
def tensD (s : ByteArray) : Nat := s.data.toList.count 10
theorem split_flat : ∀ (ps : List (List UInt8)), (∀ p ∈ ps, (10 : UInt8) ∉ p) → splitL 10 (ps.flatMap (fun p => p ++ [10])) = ps ++ [[]] := by
  intro ps
  induction ps with
  | nil => intro _; rfl
  | cons p r ih =>
    intro h
    rw [List.flatMap_cons, List.append_assoc, List.cons_append, List.nil_append, split_hit 10 p _ (h p (by simp)), ih (fun q hq => h q (by simp [hq]))]
    rfl
theorem outL_paths (l : List Vis) : outL l = (l.map (fun v => v.path.data.toList)).flatMap (fun p => p ++ [10]) := by
  unfold outL; rw [List.flatMap_map]
theorem cut_out {l : List Vis} (h : ∀ v ∈ l, (10 : UInt8) ∉ v.path.data.toList) : cutS 10 (outS l) = l.map (fun v => v.path) ++ [bs []] := by
  unfold cutS outS
  rw [data_bs, outL_paths, split_flat _ (fun p hp => by obtain ⟨v, hv, rfl⟩ := List.mem_map.1 hp; exact h v hv), List.map_append, List.map_map]
  congr 1
theorem lines_out {l : List Vis} (h : ∀ v ∈ l, (10 : UInt8) ∉ v.path.data.toList) (x : ByteArray) : linesD (outS l) x = l.countP (fun v => v.path.toList == x.toList) := by
  unfold linesD
  rw [cut_out h, List.dropLast_concat, List.countP_map]
  rfl
theorem tens_out {l : List Vis} (h : ∀ v ∈ l, (10 : UInt8) ∉ v.path.data.toList) : tensD (outS l) = l.length := by
  unfold tensD outS
  rw [data_bs]
  induction l with
  | nil => rfl
  | cons v r ih =>
    rw [show outL (v :: r) = (v.path.data.toList ++ [10]) ++ outL r from List.flatMap_cons, List.count_append, List.count_append, List.count_eq_zero_of_not_mem (h v (by simp)), ih (fun q hq => h q (by simp [hq]))]
    simp [Nat.add_comm]
theorem joinL_free (c : UInt8) (hc : c ≠ 47) : ∀ (ps : List (List UInt8)), (∀ p ∈ ps, c ∉ p) → c ∉ joinL ps := by
  intro ps
  induction ps with
  | nil => intro _ h; cases h
  | cons p r ih =>
    intro h
    cases r with
    | nil => exact h p (by simp)
    | cons q qs =>
      simp only [joinL, List.mem_append, List.mem_cons, not_or]
      exact ⟨h p (by simp), hc, ih (fun x hx => h x (by simp [hx]))⟩
theorem nameOk_ten {s : ByteArray} (h : nameOk s = true) : (10 : UInt8) ∉ s.data.toList := by
  unfold nameOk at h
  simp only [Bool.and_eq_true] at h
  intro hm
  have := List.all_eq_true.1 h.2 10 hm
  revert this
  decide
theorem way_ten {way : ByteArray} (h : (cutS 47 way).all nameOk = true) : (10 : UInt8) ∉ way.data.toList := by
  rw [← way_names h, names_way h]
  refine joinL_free 10 (by decide) _ (fun p hp => ?_)
  have := nameOk_ten (List.all_eq_true.1 h (bs p) (List.mem_map.2 ⟨p, hp, rfl⟩))
  rw [data_bs] at this
  exact this
theorem KInv.ten {L : List NodeD} {K : List ByteArray} (h : KInv L K) (k : Nat) : (10 : UInt8) ∉ (wayB K k).data.toList := by
  unfold wayB
  cases e : K[k]? with
  | none => decide
  | some w =>
    simp only []
    rw [data_bs, List.mem_cons, not_or]
    refine ⟨by decide, ?_⟩
    rcases h.up_key e with he | hok
    · rw [he]; exact List.not_mem_nil
    · exact way_ten hok
theorem wayB_inj {L : List NodeD} {K : List ByteArray} (h : KInv L K) {i j : Nat} (hi : i < L.length) (hj : j < L.length) (e : (wayB K i).toList = (wayB K j).toList) : i = j := by
  obtain ⟨a, ha⟩ : ∃ a, K[i]? = some a := ⟨_, List.getElem?_eq_getElem (by rw [h.len]; exact hi)⟩
  obtain ⟨b, hb⟩ : ∃ b, K[j]? = some b := ⟨_, List.getElem?_eq_getElem (by rw [h.len]; exact hj)⟩
  unfold wayB at e
  rw [ha, hb] at e
  simp only [ByteArray.toList_eq, data_bs, List.cons.injEq, true_and] at e
  have : a = b := bs_inj e
  subst this
  exact h.inj ha hb
theorem lines_vis {L : List NodeD} {K : List ByteArray} (h : KInv L K) {l : List Vis} (hl : ∀ v ∈ l, v.path = wayB K v.node ∧ v.node < L.length) {k : Nat} (hk : k < L.length) : linesD (outS l) (wayB K k) = cntV k l := by
  rw [lines_out (fun v hv => by rw [(hl v hv).1]; exact h.ten _)]
  unfold cntV
  refine List.countP_congr (fun v hv => ?_)
  obtain ⟨e, hv2⟩ := hl v hv
  rw [e, beq_iff_eq, decide_eq_true_eq]
  exact ⟨fun q => wayB_inj h hv2 hk q, fun q => by rw [q]⟩
theorem tens_vis {L : List NodeD} {K : List ByteArray} (h : KInv L K) {l : List Vis} (hl : ∀ v ∈ l, v.path = wayB K v.node ∧ v.node < L.length) : tensD (outS l) = l.length :=
  tens_out (fun v hv => by rw [(hl v hv).1]; exact h.ten _)
theorem range_map (n : Nat) (f : Nat → Nat) : ((List.range (n + 1)).map f).sum = ((List.range n).map f).sum + f n := by
  rw [List.range_succ, List.map_append, List.sum_append]; simp
theorem range_one {n j : Nat} (h : j < n) : ((List.range n).map (fun k => if j = k then 1 else 0)).sum = 1 := by
  induction n with
  | zero => omega
  | succ n ih =>
    rw [range_map]
    by_cases e : j = n
    · subst e
      rw [if_pos rfl, sum_zero _ _ (fun a ha => if_neg (by have := List.mem_range.1 ha; omega))]
    · rw [if_neg e, ih (by omega)]
theorem sum_add {α : Type} (l : List α) (f g : α → Nat) : (l.map (fun a => f a + g a)).sum = (l.map f).sum + (l.map g).sum := by
  induction l with
  | nil => rfl
  | cons a r ih => simp only [List.map_cons, List.sum_cons, ih]; omega
theorem cntv_all {n : Nat} {l : List Vis} (h : ∀ v ∈ l, v.node < n) : ((List.range n).map (fun k => cntV k l)).sum = l.length := by
  induction l with
  | nil => exact sum_zero _ _ (fun _ _ => rfl)
  | cons v r ih =>
    have e : ∀ k, cntV k (v :: r) = (if v.node = k then 1 else 0) + cntV k r := by
      intro k
      unfold cntV
      rw [List.countP_cons, Nat.add_comm]
      simp
    rw [show (fun k => cntV k (v :: r)) = fun k => (if v.node = k then 1 else 0) + cntV k r from funext e, sum_add, range_one (h v (by simp)), ih (fun q hq => h q (by simp [hq]))]
    simp [Nat.add_comm]
theorem once_plain {L : List NodeD} {K : List ByteArray} (h : KInv L K) (deep : Bool) (mx : Int) (hmx : ∀ k, k < L.length → depK K k < mx) (f : Nat) (hf : L.length < f) :
    let l := visG L deep mx f 0 (wayB K 0) (depK K 0)
    linesD (outS l) (wayB K 0) = 1 ∧ (∀ k, k < L.length → ∀ g, k ≤ g → linesD (outS l) (wayB K k) = openD L g k) ∧ tensD (outS l) = ((List.range L.length).map (fun k => openD L k k)).sum ∧ tensD (outS l) ≤ L.length := by
  intro l
  have hl : ∀ v ∈ l, v.path = wayB K v.node ∧ v.node < L.length := fun v hv => by
    obtain ⟨a, _, _, d⟩ := vis_way h f 0 v hv
    exact ⟨a, d⟩
  have hop : ∀ k, k < L.length → ∀ g, k ≤ g → cntV k l = openD L g k := fun k hk g hg => cnt_open h hmx hf g k hg hk
  have hr : cntV 0 l = 1 := by
    obtain ⟨f', rfl⟩ : ∃ f', f = f' + 1 := ⟨f - 1, by omega⟩
    exact cnt_root h hmx
  have hsum : l.length = ((List.range L.length).map (fun k => openD L k k)).sum := by
    rw [← cntv_all (n := L.length) (fun v hv => (hl v hv).2)]
    congr 1
    exact List.map_congr_left (fun k hk => hop k (List.mem_range.1 hk) k (Nat.le_refl _))
  have hle : ∀ g k, openD L g k ≤ 1 := by
    intro g
    induction g with
    | zero => intro k; exact Nat.le_refl _
    | succ g ih =>
      intro k
      unfold openD
      split
      · exact Nat.le_refl _
      · split
        · exact Nat.le_refl _
        · rename_i m _ _
          have h1 : opD L m.up.toNat ≤ 1 := by unfold opD; split <;> (try split) <;> omega
          exact Nat.le_trans (Nat.mul_le_mul h1 (ih _)) (Nat.le_refl _)
  have hlen : ∀ n, ((List.range n).map (fun k => openD L k k)).sum ≤ n := by
    intro n
    induction n with
    | zero => exact Nat.le_refl _
    | succ n ih => rw [range_map]; have := hle n n; omega
  refine ⟨?_, fun k hk g hg => ?_, ?_, ?_⟩
  · rw [lines_vis h hl h.pos]; exact hr
  · rw [lines_vis h hl hk]; exact hop k hk g hg
  · rw [tens_vis h hl]; exact hsum
  · rw [tens_vis h hl, hsum]; exact hlen _
end Go.Proofs.YtfemboojdablhaaGreatDoor.Tre
namespace Go.Proofs.YtfemboojdablhaaGreatDoor.Tre
open Go.RowKit Go.Shelf
theorem append_str_at {P : Program} (w : World) (base : Nat) (t u ty e : TypeId) (i : TypeInfo) (ht : P.underlying t = some (.slice e)) (hu : P.underlying u = some .string) (hi : P.info? e = some i) (hz : i.zero = some (.int .u8 0)) (hsize : i.size = 1) (hby : i.bytes = 1)
    (v : Value) (n : Nat) (xs : List Value) (hown : w.ownsRow base e 1 v n xs) (s : ByteArray) (h63 : n + s.size ≤ maxLen) (hbytes : n + s.size ≤ 140737488355328) (hbase : base ≤ w.heap.size) :
    ∃ v' w', (Builtin.append_ #[t, u] ty #[v, .string s]).run P w = .ok v' w' ∧ w'.ownsRow base e 1 v' (n + s.size) (xs ++ Lib.strCells s) ∧ w.grownBy w' v.ownBlock ∧ (v'.ownBlock = v.ownBlock ∨ v'.ownBlock = some w.heap.size) ∧ (v' = .slice none 0 0 ↔ v = .slice none 0 0 ∧ s.size = 0) := by
  obtain ⟨v', w', hr, h2, h3, h4⟩ := Lib.run_append_own_string (P := P) w base t u ty e i ht hu hi hz hsize hby v n xs hown s h63 hbytes hbase
  refine ⟨v', w', hr, h2, h3, ?_, h4⟩
  have hsmall : n + s.size ≤ 9223372036854775807 := by simp only [maxLen] at h63; omega
  have hxl : xs.length = n := by simpa using hown.1
  rcases hown.2 with ⟨rfl, rfl⟩ | ⟨g, cap, cur, rfl, hbg, hg, hnc, hcm, hcs, htake⟩
  · by_cases hm : s.size = 0
    · rw [h4.2 ⟨rfl, hm⟩]; exact .inl rfl
    · have hr2 := run_append_nil_string (P := P) w t u ty e i (.int .u8 0) ht hu hi hz s (by omega) (by omega) (by rw [hby]; omega)
      rw [hr] at hr2
      cases hr2
      exact .inr rfl
  · by_cases hroom : n + s.size ≤ cap
    · have hr2 := Lib.run_append_room_string (P := P) w t u ty e i ht hu hi hsize g n cap cur hg s hroom (by omega)
      rw [hr] at hr2
      cases hr2
      exact .inl rfl
    · have hr2 := Lib.run_append_grow_string (P := P) w t u ty e i (.int .u8 0) ht hu hi hz ⟨g, 0, none⟩ n cap xs (by rw [hsize]; simpa using hxl) (hown.cells (g := g) rfl) s (by omega) (by omega) (by rw [hby]; exact growslice_fits (by omega) (by omega))
      rw [hr] at hr2
      cases hr2
      exact .inr rfl
theorem wpList_append_str_at {P : Program} {w : World} {ops : Array Oper} {rest : List Oper} {o : Oper} {a : Act} {Q : Exit → Act → World → Prop} (hgd : o.guard = none) (sl x : Operand) (t u : TypeId)
    (ho : o.op = .call { callee := .builtin .append, args := #[sl, x], argTypes := #[t, u] })
    (base : Nat) (e : TypeId) (i : TypeInfo) (ht : P.underlying t = some (.slice e)) (hu : P.underlying u = some .string) (hi : P.info? e = some i) (hz : i.zero = some (.int .u8 0))
    (hsize : i.size = 1) (hby : i.bytes = 1)
    (v : Value) (n : Nat) (xs : List Value) (hs : a.eval sl = v) (hown : w.ownsRow base e 1 v n xs) (s : ByteArray) (hx : a.eval x = .string s)
    (h63 : n + s.size ≤ maxLen) (hbytes : n + s.size ≤ 140737488355328) (hbase : base ≤ w.heap.size)
    (h : ∀ v' w', w'.ownsRow base e 1 v' (n + s.size) (xs ++ Lib.strCells s) → w.grownBy w' v.ownBlock → (v'.ownBlock = v.ownBlock ∨ v'.ownBlock = some w.heap.size) → wpList P ops Q rest (a.put o.dst v') w') : wpList P ops Q (o :: rest) a w := by
  refine wpList_plain hgd fun K hK => ?_
  obtain ⟨v', w', hr, h2, h3, h4, _⟩ := append_str_at (P := P) w base t u o.type e i ht hu hi hz hsize hby v n xs hown s h63 hbytes hbase
  unfold Oper.wp execOp
  simp only [ho, resolve, invoke, builtin, Sem.run_bind, Sem.run_pure, Result.andThen_ok, List.map_toArray, List.map_cons, List.map_nil, hs, hx, hr]
  exact hK _ _ (h v' w' h2 h3 h4)
structure Cf where
  b : Nat
  ga : Nat
  gm : Nat
  g : Nat
  cap : Nat
  kb : Nat
  B : Nat
  deep : Bool
  mn : Int
  mx : Int
  ms : Int
  iv : Value
def DS (c : Cf) (bv tv : Value) (k : Nat) : Prop := k = c.b ∨ k = c.ga ∨ bv.ownBlock = some k ∨ tv.ownBlock = some k
abbrev WkC (W : World) (c : Cf) (n : Nat) (gone : Nat) (pv bv tv : Value) : Prop :=
  WkO W c.b (.slice (some ⟨c.g, 0, none⟩) n c.cap) c.deep c.mn c.mx c.ms (.func (.func 69) #[] #[.pointer (some ⟨c.kb, 0, none⟩)]) c.iv (.slice (some ⟨c.gm, 0, none⟩) n n) (.slice (some ⟨c.ga, 0, none⟩) n n) (gone : Int) pv bv tv
def meaL (n : Nat) : List Value := (List.range n).map (fun (i : Nat) => Value.int .i64 (i : Int))
structure WSt (L : List NodeD) (c : Cf) (gone : Nat) (out : List UInt8) (ab : List Bool) (pv bv tv : Value) (nn : Nat) (W : World) : Prop where
  blk : WkC W c L.length gone pv bv tv
  pvs : pv = .pointer none ∨ pv = .pointer (some ⟨c.b, 11, none⟩)
  buf : W.ownsRow c.B 5 1 bv out.length (Lib.byteCells out)
  emp : out = [] → bv = .slice none 0 0
  nts : ∃ ts, W.ownsRow c.B 9 1 tv nn ts
  mea : W.heap[c.gm]? = some (.cells (meaL L.length).toArray 3 (0, 0))
  abv : W.heap[c.ga]? = some (.cells (ab.map Value.bool).toArray 4 (0, 0))
  abl : ab.length = L.length
  row : NodeRow c.B W (.slice (some ⟨c.g, 0, none⟩) L.length c.cap) L
  bB : c.B ≤ c.b
  gB : c.B ≤ c.ga
theorem ty_ne {W : World} {k : Nat} {a a' : Array Value} {t t' : TypeId} {y y' : Nat × Nat} (h : W.heap[k]? = some (.cells a t y)) (h' : W.heap[k]? = some (.cells a' t' y')) (hne : t ≠ t') : False := by
  rw [h, Option.some.injEq, Obj.cells.injEq] at h'
  exact hne h'.2.1
theorem own_ne {W : World} {B n k : Nat} {e t : TypeId} {size : Nat} {v : Value} {xs : List Value} {a : Array Value} {y : Nat × Nat} (h : W.ownsRow B e size v n xs) (hk : W.heap[k]? = some (.cells a t y)) (hne : e ≠ t) : v.ownBlock ≠ some k := by
  intro hv
  rcases h.2 with ⟨rfl, _⟩ | ⟨g, cap, cur, rfl, _, hg, _⟩
  · cases hv
  · simp only [Value.ownBlock, Option.some.injEq] at hv
    subst hv
    exact ty_ne hg hk hne
theorem own_two {W : World} {B n n' : Nat} {e e' : TypeId} {size size' : Nat} {v v' : Value} {xs xs' : List Value} (h : W.ownsRow B e size v n xs) (h' : W.ownsRow B e' size' v' n' xs') (hne : e ≠ e') {k : Nat} (hk : v.ownBlock = some k) : v'.ownBlock ≠ some k := by
  intro hv
  rcases h.2 with ⟨rfl, _⟩ | ⟨g, cap, cur, rfl, _, hg, _⟩
  · cases hk
  · simp only [Value.ownBlock, Option.some.injEq] at hk
    subst hk
    exact own_ne h' hg (fun e => hne e.symm) hv
theorem wown_keep {W W' : World} {B n : Nat} {e : TypeId} {size : Nat} {v : Value} {xs : List Value} (h : W.ownsRow B e size v n xs) (hk : ∀ k, v.ownBlock = some k → W'.heap[k]? = W.heap[k]?) : W'.ownsRow B e size v n xs := by
  refine ⟨h.1, ?_⟩
  rcases h.2 with ⟨rfl, h0⟩ | ⟨g, cap, cur, rfl, h1, hg, hr⟩
  · exact .inl ⟨rfl, h0⟩
  · exact .inr ⟨g, cap, cur, rfl, h1, (hk g rfl).trans hg, hr⟩
theorem wset_other {W : World} {b i k : Nat} {v : Value} (h : k ≠ b) : (W.setCell ⟨b, i, none⟩ v).heap[k]? = W.heap[k]? := Below.heap_setCell _ _ _ k (fun e => h e)
theorem wset_block {W : World} {b i : Nat} {v : Value} {a : Array Value} {t : TypeId} {y : Nat × Nat} (h : W.heap[b]? = some (.cells a t y)) : (W.setCell ⟨b, i, none⟩ v).heap[b]? = some (.cells (a.setIfInBounds i v) t y) := by
  obtain ⟨hl, hk⟩ := Array.getElem?_eq_some_iff.1 h
  show (W.heap.modify b _)[b]? = _
  rw [Array.getElem?_eq_getElem (by rw [Array.size_modify]; exact hl), Array.getElem_modify_self, hk]
  rfl
variable {L : List NodeD} {c : Cf} {gone nn : Nat} {out : List UInt8} {ab : List Bool} {pv bv tv : Value} {W W' : World}
theorem WSt.lts (h : WSt L c gone out ab pv bv tv nn W) : ∀ k, DS c bv tv k → c.B ≤ k ∧ k < W.heap.size := by
  rintro k (rfl | rfl | hk | hk)
  · exact ⟨h.bB, h.blk.lt⟩
  · exact ⟨h.gB, (Array.getElem?_eq_some_iff.1 h.abv).1⟩
  · exact h.buf.lt k hk
  · obtain ⟨ts, ht⟩ := h.nts
    exact ht.lt k hk
theorem WSt.Bl (h : WSt L c gone out ab pv bv tv nn W) : c.B ≤ W.heap.size := Nat.le_trans h.bB (Nat.le_of_lt h.blk.lt)
theorem WSt.ngm (h : WSt L c gone out ab pv bv tv nn W) : ¬ DS c bv tv c.gm := by
  rintro (e | e | hk | hk)
  · exact ty_ne (e ▸ h.mea) h.blk (by decide)
  · exact ty_ne (e ▸ h.mea) h.abv (by decide)
  · exact own_ne h.buf h.mea (by decide) hk
  · obtain ⟨ts, ht⟩ := h.nts
    exact own_ne ht h.mea (by decide) hk
theorem WSt.below (h : WSt L c gone out ab pv bv tv nn W) (hb : Below W.heap.size W W') : WSt L c gone out ab pv bv tv nn W' := by
  have hlt := h.lts
  have ltb : ∀ k, k < W.heap.size → W'.heap[k]? = W.heap[k]? := hb.block
  obtain ⟨ts, ht⟩ := h.nts
  refine ⟨(ltb _ h.blk.lt).trans h.blk, h.pvs, wown_keep h.buf (fun k hk => ltb k (h.buf.lt k hk).2), h.emp, ⟨ts, wown_keep ht (fun k hk => ltb k (ht.lt k hk).2)⟩, (ltb _ (Array.getElem?_eq_some_iff.1 h.mea).1).trans h.mea, (ltb _ (Array.getElem?_eq_some_iff.1 h.abv).1).trans h.abv, h.abl, h.row.below (hb.mono h.Bl), h.bB, h.gB⟩
theorem turn_low {B : Nat} {D D' : Nat → Prop} (h : TurnC D D' W W') (hB : ∀ k, D k → B ≤ k) (hs : B ≤ W.heap.size) : Below B W W' :=
  ⟨h.os, h.tape, h.output, h.size, fun k hk => h.block k (by omega) (fun q => by have := hB k q; omega)⟩
theorem WSt.set (h : WSt L c gone out ab pv bv tv nn W) {i : Nat} {v : Value} {gone' : Nat} {pv' bv' tv' : Value} (hs : WkC (W.setCell ⟨c.b, i, none⟩ v) c L.length gone' pv' bv' tv') (hp : pv' = .pointer none ∨ pv' = .pointer (some ⟨c.b, 11, none⟩)) (e1 : bv' = bv) (e2 : tv' = tv) : WSt L c gone' out ab pv' bv' tv' nn (W.setCell ⟨c.b, i, none⟩ v) := by
  subst e1 e2
  obtain ⟨ts, ht⟩ := h.nts
  have hba : c.ga ≠ c.b := fun e => ty_ne (e ▸ h.abv) h.blk (by decide)
  have hbm : c.gm ≠ c.b := fun e => h.ngm (.inl e)
  have hbb : ∀ k, bv'.ownBlock = some k → k ≠ c.b := fun k hk e => own_ne h.buf h.blk (by decide) (e ▸ hk)
  have hbt : ∀ k, tv'.ownBlock = some k → k ≠ c.b := fun k hk e => own_ne ht h.blk (by decide) (e ▸ hk)
  exact ⟨hs, hp, wown_keep h.buf (fun k hk => wset_other (hbb k hk)), h.emp, ⟨ts, wown_keep ht (fun k hk => wset_other (hbt k hk))⟩, (wset_other hbm).trans h.mea, (wset_other hba).trans h.abv, h.abl, h.row.below ((Below.refl c.B W).setCell (p := ⟨c.b, i, none⟩) h.bB _), h.bB, h.gB⟩
end Go.Proofs.YtfemboojdablhaaGreatDoor.Tre
