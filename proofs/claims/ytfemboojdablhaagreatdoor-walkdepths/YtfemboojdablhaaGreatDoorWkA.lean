/- Walk, plain: which nodes are gone to, by which paths, how often. Nothing of the program. -/
import Derived.Test.YtfemboojdablhaaGreatDoorTGPlain
namespace Go.Proofs.YtfemboojdablhaaGreatDoor.Tre

theorem kinv_srt {R L : List NodeD} {K : List ByteArray} (h : KInv R K) (hs : Srt R L) : KInv L K := by
  refine ⟨h.len.trans hs.len.symm, by rw [hs.len]; exact h.pos, fun n hn => ?_, h.key0, fun i n hn hi => ?_, fun i n hn c => ?_, fun i n hn => ?_, h.nodup, fun i n hn hk => ?_, fun i n hn => ?_, by rw [hs.len]; exact h.lim, fun i n hn => ?_⟩
  · obtain ⟨m, hm, e, _⟩ := hs.back hn
    rw [e]; exact h.root m hm
  · obtain ⟨m, hm, e, _⟩ := hs.back hn
    obtain ⟨way, a, h1, h2, h3, h4, h5, h6⟩ := h.node i m hm hi
    exact ⟨way, a, h1, h2, by rw [e]; exact h3, by rw [e]; exact h4, h5, h6⟩
  · obtain ⟨m, hm, e, hp, _⟩ := hs.back hn
    rw [hp.mem_iff, h.kids i m hm c]
    constructor
    · rintro ⟨h0, q, hq, hu⟩
      obtain ⟨ks, hk, _⟩ := hs.node c q hq
      exact ⟨h0, _, hk, hu⟩
    · rintro ⟨h0, q, hq, hu⟩
      obtain ⟨q', hq', e', _⟩ := hs.back hq
      exact ⟨h0, q', hq', by rw [e'] at hu; exact hu⟩
  · obtain ⟨m, hm, e, hp, _⟩ := hs.back hn
    exact hp.nodup_iff.2 (h.knd i m hm)
  · obtain ⟨m, hm, e, hp, _⟩ := hs.back hn
    have := h.dir i m hm (fun e0 => hk (by rw [e0] at hp; exact hp.eq_nil))
    rw [e]; exact this
  · obtain ⟨m, hm, e, _⟩ := hs.back hn
    rw [e]; exact h.text i m hm
  · obtain ⟨m, hm, e, hp, _⟩ := hs.back hn
    rw [hp.length_eq, hs.len]; exact h.klen i m hm

/-- Two pieces of a path put together. -/
def endsS (s : ByteArray) : Bool := decide (s.data.toList.getLast? = some 47)
def jn (a b : ByteArray) : ByteArray := if a.toList.isEmpty || endsS a then a ++ b else a ++ ⟨#[47]⟩ ++ b
/-- A visit: the path, the depth, the node. -/
structure Vis where
  path : ByteArray
  depth : Int
  node : Nat
def nameAt (L : List NodeD) (c : Nat) : ByteArray := match L[c]? with
  | some m => m.name
  | none => bs []
/-- Are the Kids of the node gone to? -/
def goesB (n : NodeD) (d mx : Int) : Bool := dirD n && decide (d < mx) && !decide (n.kind = 120)
/-- What is gone to from a node on. -/
def visG (L : List NodeD) (deep : Bool) (mx : Int) : Nat → Nat → ByteArray → Int → List Vis
  | 0, _, _, _ => []
  | f + 1, k, p, d => match L[k]? with
    | none => []
    | some n =>
      let below := if goesB n d mx then n.kids.flatMap (fun c => visG L deep mx f c (jn p (nameAt L c)) (d + 1)) else []
      if deep then below ++ [⟨p, d, k⟩] else ⟨p, d, k⟩ :: below

/-- The path of a node, from the root on. -/
def wayB (K : List ByteArray) (k : Nat) : ByteArray := match K[k]? with
  | some w => bs (47 :: w.data.toList)
  | none => bs [47]
def depK (K : List ByteArray) (k : Nat) : Int := match K[k]? with
  | some w => ((namesL w).length : Int)
  | none => 0

theorem bs_app (a b : List UInt8) : bs a ++ bs b = bs (a ++ b) := by
  apply bs_inj
  simp [ByteArray.data_append, bs]
theorem joinL_snoc : ∀ (ps : List (List UInt8)) (p : List UInt8), ps ≠ [] → joinL (ps ++ [p]) = joinL ps ++ 47 :: p := by
  intro ps
  induction ps with
  | nil => intro p h; exact absurd rfl h
  | cons q r ih =>
    intro p _
    cases r with
    | nil => simp [joinL]
    | cons q2 r2 =>
      have := ih p (by simp)
      simp only [List.cons_append, joinL] at this ⊢
      rw [this]; simp
theorem way_names {way : ByteArray} (h : (cutS 47 way).all nameOk = true) : joinL (namesL way) = way.data.toList := by
  rw [names_way h, join_split]
theorem names_nil {way : ByteArray} (h : way.data.toList = []) : namesL way = [] := by
  unfold namesL
  rw [h]; rfl
theorem KInv.up_key {L : List NodeD} {K : List ByteArray} (h : KInv L K) {a : Nat} {w : ByteArray} (ha : K[a]? = some w) : w.data.toList = [] ∨ (cutS 47 w).all nameOk = true := by
  obtain ⟨n, hn⟩ := h.node' ha
  by_cases h0 : a = 0
  · subst h0
    rw [h.key0] at ha
    cases ha
    exact .inl rfl
  · obtain ⟨way, _, h1, h2, _⟩ := h.node a n hn (by omega)
    rw [ha] at h1
    cases h1
    exact .inr h2
/-- A node's path is that of its directory and its name. -/
theorem way_kid {L : List NodeD} {K : List ByteArray} (h : KInv L K) {c a : Nat} {m : NodeD} (hm : L[c]? = some m) (h0 : 0 < c) (ha : m.up = (a : Int)) : jn (wayB K a) m.name = wayB K c ∧ depK K c = depK K a + 1 := by
  obtain ⟨way, a', h1, h2, h3, h4, h5, h6⟩ := h.node c m hm h0
  have : a' = a := by omega
  subst this
  have hnp := names_parts h2
  have hway := way_names h2
  refine ⟨?_, ?_⟩
  · unfold wayB
    rw [h1, h6]
    simp only []
    rcases h.up_key h6 with he | hok
    · rw [he]
      rw [names_nil he] at hnp
      rw [hnp] at hway
      simp only [List.nil_append, joinL] at hway
      unfold jn
      rw [if_pos (by rw [show endsS (bs [47]) = true from rfl, Bool.or_true]), h3]
      apply bs_inj
      rw [ByteArray.data_append, Array.toList_append, data_bs, data_bs, hway]
      rfl
    · have hne := way_ne hok
      rw [hnp, joinL_snoc _ _ (by rw [names_way hok]; exact split_ne _ _), way_names hok] at hway
      have he : endsS (bs (47 :: (upS way).data.toList)) = false := by
        unfold endsS
        rw [decide_eq_false_iff_not, data_bs]
        intro hl
        have hl' : (upS way).data.toList.getLast? = some 47 := by
          rcases snoc_cases (upS way).data.toList with e | ⟨mm, x, e⟩
          · exact absurd e hne
          · rw [e] at hl ⊢
            rw [← List.cons_append, List.getLast?_concat] at hl
            rw [List.getLast?_concat]; exact hl
        rcases snoc_cases (upS way).data.toList with e | ⟨mm, x, e⟩
        · exact absurd e hne
        · rw [e] at hl'
          simp at hl'
          subst hl'
          have hh := way_ok hok [] (by rw [e, split_cat]; simp [splitL])
          exact hh.1 rfl
      unfold jn
      rw [if_neg (by rw [he, Bool.or_false]; intro hc; rw [ByteArray.toList_eq, data_bs] at hc; cases hc), h3]
      apply bs_inj
      rw [ByteArray.data_append, Array.toList_append, ByteArray.data_append, Array.toList_append, data_bs, data_bs, ← hway]
      simp
  · unfold depK
    rw [h1, h6]
    simp only []
    rw [hnp]
    simp
theorem nameAt_of {L : List NodeD} {c : Nat} {m : NodeD} (h : L[c]? = some m) : nameAt L c = m.name := by unfold nameAt; rw [h]

/-- One step of the visits. -/
def belowG (L : List NodeD) (deep : Bool) (mx : Int) (f : Nat) (n : NodeD) (p : ByteArray) (d : Int) : List Vis :=
  if goesB n d mx then n.kids.flatMap (fun c => visG L deep mx f c (jn p (nameAt L c)) (d + 1)) else []
theorem visG_some {L : List NodeD} {deep : Bool} {mx : Int} {f k : Nat} {p : ByteArray} {d : Int} {n : NodeD} (h : L[k]? = some n) : visG L deep mx (f + 1) k p d = if deep then belowG L deep mx f n p d ++ [⟨p, d, k⟩] else ⟨p, d, k⟩ :: belowG L deep mx f n p d := by
  unfold visG belowG
  rw [h]
theorem visG_none {L : List NodeD} {deep : Bool} {mx : Int} {f k : Nat} {p : ByteArray} {d : Int} (h : L[k]? = none) : visG L deep mx f k p d = [] := by
  cases f with
  | zero => rfl
  | succ f => unfold visG; rw [h]
theorem mem_vis {L : List NodeD} {deep : Bool} {mx : Int} {f k : Nat} {p : ByteArray} {d : Int} {n : NodeD} (h : L[k]? = some n) (v : Vis) : v ∈ visG L deep mx (f + 1) k p d ↔ v = ⟨p, d, k⟩ ∨ v ∈ belowG L deep mx f n p d := by
  rw [visG_some h]
  cases deep <;> simp [or_comm]
theorem mem_below {L : List NodeD} {deep : Bool} {mx : Int} {f : Nat} {p : ByteArray} {d : Int} {n : NodeD} (v : Vis) : v ∈ belowG L deep mx f n p d ↔ goesB n d mx = true ∧ ∃ c ∈ n.kids, v ∈ visG L deep mx f c (jn p (nameAt L c)) (d + 1) := by
  unfold belowG
  split
  · rename_i hg; rw [List.mem_flatMap]; simp [hg]
  · rename_i hg; simp [hg]

theorem vis_way {L : List NodeD} {K : List ByteArray} (h : KInv L K) {deep : Bool} {mx : Int} : ∀ (f k : Nat) (v : Vis), v ∈ visG L deep mx f k (wayB K k) (depK K k) → v.path = wayB K v.node ∧ v.depth = depK K v.node ∧ k ≤ v.node ∧ v.node < L.length := by
  intro f
  induction f with
  | zero => intro k v hv; cases hv
  | succ f ih =>
    intro k v hv
    cases hk : L[k]? with
    | none => rw [visG_none hk] at hv; cases hv
    | some n =>
      rw [mem_vis hk] at hv
      rcases hv with rfl | hv
      · exact ⟨rfl, rfl, Nat.le_refl _, (List.getElem?_eq_some_iff.1 hk).1⟩
      · rw [mem_below] at hv
        obtain ⟨_, c, hc, hv⟩ := hv
        obtain ⟨h0, m, hm, hu⟩ := (h.kids k n hk c).1 hc
        obtain ⟨e1, e2⟩ := way_kid h hm h0 hu
        rw [nameAt_of hm, e1, ← e2] at hv
        obtain ⟨a1, a2, a3, a4⟩ := ih c v hv
        obtain ⟨_, a', _, _, _, h4, h5, _⟩ := h.node c m hm h0
        exact ⟨a1, a2, by omega, a4⟩
theorem dep_ge {L : List NodeD} {deep : Bool} {mx : Int} : ∀ (f k : Nat) (p : ByteArray) (d : Int) (v : Vis), v ∈ visG L deep mx f k p d → d ≤ v.depth := by
  intro f
  induction f with
  | zero => intro k p d v hv; cases hv
  | succ f ih =>
    intro k p d v hv
    cases hk : L[k]? with
    | none => rw [visG_none hk] at hv; cases hv
    | some n =>
      rw [mem_vis hk] at hv
      rcases hv with rfl | hv
      · exact Int.le_refl _
      · rw [mem_below] at hv
        obtain ⟨_, c, _, hv⟩ := hv
        have := ih c _ _ v hv
        omega
theorem fm_congr {α β : Type} {l : List α} {f g : α → List β} (h : ∀ a ∈ l, f a = g a) : l.flatMap f = l.flatMap g := by
  induction l with
  | nil => rfl
  | cons a r ih => rw [List.flatMap_cons, List.flatMap_cons, h a (by simp), ih (fun b hb => h b (by simp [hb]))]
theorem dep_pos (K : List ByteArray) (k : Nat) : 0 ≤ depK K k := by unfold depK; split <;> omega
theorem dep_le {L : List NodeD} {K : List ByteArray} (h : KInv L K) : ∀ (k : Nat), k < L.length → depK K k ≤ k := by
  intro k
  induction k using Nat.strongRecOn with
  | _ k ih =>
    intro hk
    by_cases h0 : k = 0
    · subst h0
      unfold depK
      rw [h.key0]
      simp only []
      rw [names_nil rfl]
      simp
    · obtain ⟨m, hm⟩ : ∃ m, L[k]? = some m := ⟨_, List.getElem?_eq_getElem hk⟩
      obtain ⟨way, a, h1, h2, h3, h4, h5, h6⟩ := h.node k m hm (by omega)
      have := (way_kid h hm (by omega) h4).2
      have := ih a h5 (by omega)
      omega

/-- With a least depth bound: the visits that are not deeper. -/
theorem vis_max {L : List NodeD} {mx my : Int} : ∀ (f k : Nat) (p : ByteArray) (d : Int), d ≤ mx → (∀ v ∈ visG L false my f k p d, v.depth < my) → visG L false mx f k p d = (visG L false my f k p d).filter (fun v => decide (v.depth ≤ mx)) := by
  intro f
  induction f with
  | zero => intro k p d _ _; rfl
  | succ f ih =>
    intro k p d hd hmy
    cases hk : L[k]? with
    | none => rw [visG_none hk, visG_none hk]; rfl
    | some n =>
      have hdy : d < my := hmy ⟨p, d, k⟩ ((mem_vis hk _).2 (.inl rfl))
      rw [visG_some hk, visG_some hk]
      simp only [Bool.false_eq_true, if_false]
      rw [List.filter_cons_of_pos (by simpa using hd)]
      congr 1
      unfold belowG
      by_cases hdm : d < mx
      · have e : goesB n d mx = goesB n d my := by unfold goesB; simp [hdm, hdy]
        rw [e]
        split
        · rename_i hg
          rw [List.filter_flatMap]
          refine fm_congr (fun c hc => ?_)
          refine ih c _ _ (by omega) (fun v hv => hmy v ((mem_vis hk _).2 (.inr ((mem_below _).2 ⟨hg, c, hc, hv⟩))))
        · rfl
      · have e : goesB n d mx = false := by unfold goesB; simp [hdm]
        rw [e]
        simp only [Bool.false_eq_true, if_false]
        symm
        rw [List.filter_eq_nil_iff]
        intro v hv
        split at hv
        · rw [List.mem_flatMap] at hv
          obtain ⟨c, _, hv⟩ := hv
          have := dep_ge _ _ _ _ v hv
          simp; omega
        · cases hv

/-- How often a node is gone to. -/
def cntV (j : Nat) (l : List Vis) : Nat := l.countP (fun v => decide (v.node = j))
theorem cnt_app (j : Nat) (a b : List Vis) : cntV j (a ++ b) = cntV j a + cntV j b := List.countP_append
theorem cnt_flat {α : Type} (j : Nat) (l : List α) (f : α → List Vis) : cntV j (l.flatMap f) = (l.map (fun c => cntV j (f c))).sum := by
  induction l with
  | nil => rfl
  | cons a r ih => rw [List.flatMap_cons, cnt_app, ih]; rfl
theorem cnt_vis {L : List NodeD} {deep : Bool} {mx : Int} {f k : Nat} {p : ByteArray} {d : Int} {n : NodeD} (h : L[k]? = some n) (j : Nat) : cntV j (visG L deep mx (f + 1) k p d) = (if k = j then 1 else 0) + cntV j (belowG L deep mx f n p d) := by
  rw [visG_some h]
  have e : cntV j [⟨p, d, k⟩] = if k = j then 1 else 0 := by unfold cntV; rw [List.countP_singleton]; simp
  cases deep
  · simp only [Bool.false_eq_true, if_false]
    rw [← e, ← cnt_app]; rfl
  · simp only [if_true]
    rw [← e, cnt_app, Nat.add_comm]
theorem cntv_zero {L : List NodeD} {K : List ByteArray} (h : KInv L K) {deep : Bool} {mx : Int} {f k j : Nat} (hj : j < k) : cntV j (visG L deep mx f k (wayB K k) (depK K k)) = 0 := by
  unfold cntV
  rw [List.countP_eq_zero]
  intro v hv
  have := (vis_way h f k v hv).2.2.1
  simp; omega
/-- Is the node a directory that can be read? -/
def opD (L : List NodeD) (u : Nat) : Nat := match L[u]? with
  | some n => if n.kind = 120 then 0 else 1
  | none => 0
theorem sum_zero {α : Type} (l : List α) (f : α → Nat) (h : ∀ a ∈ l, f a = 0) : (l.map f).sum = 0 := by
  induction l with
  | nil => rfl
  | cons a r ih => rw [List.map_cons, List.sum_cons, h a (by simp), ih (fun b hb => h b (by simp [hb]))]
theorem sum_mul {α : Type} (l : List α) (f g : α → Nat) (q : Nat) (h : ∀ a ∈ l, f a = q * g a) : (l.map f).sum = q * (l.map g).sum := by
  induction l with
  | nil => rfl
  | cons a r ih => rw [List.map_cons, List.sum_cons, List.map_cons, List.sum_cons, h a (by simp), ih (fun b hb => h b (by simp [hb])), Nat.mul_add]
theorem sum_one (l : List Nat) (j : Nat) (f : Nat → Nat) (hn : l.Nodup) (hj : j ∈ l) (h1 : f j = 1) (h : ∀ a ∈ l, a ≠ j → f a = 0) : (l.map f).sum = 1 := by
  induction l with
  | nil => cases hj
  | cons a r ih =>
    rw [List.map_cons, List.sum_cons]
    rw [List.nodup_cons] at hn
    by_cases e : a = j
    · subst e
      rw [h1, sum_zero r f (fun b hb => h b (by simp [hb]) (fun e => hn.1 (e ▸ hb)))]
    · rw [h a (by simp) e, Nat.zero_add]
      refine ih hn.2 ?_ (fun b hb => h b (by simp [hb]))
      rcases List.mem_cons.1 hj with e' | hj'
      · exact absurd e'.symm e
      · exact hj'
theorem cnt_below {L : List NodeD} {K : List ByteArray} (h : KInv L K) {deep : Bool} {mx : Int} {f k : Nat} {n : NodeD} (hk : L[k]? = some n) (hmx : depK K k < mx) (j : Nat) : cntV j (belowG L deep mx f n (wayB K k) (depK K k)) = opD L k * (n.kids.map (fun c => cntV j (visG L deep mx f c (wayB K c) (depK K c)))).sum := by
  unfold belowG
  have hop : opD L k = if n.kind = 120 then 0 else 1 := by unfold opD; rw [hk]
  by_cases hkd : n.kids = []
  · rw [hkd]; split <;> simp [cntV]
  · have hd := h.dir k n hk hkd
    by_cases hx : n.kind = 120
    · rw [if_neg (by unfold goesB; simp [hx]), hop, if_pos hx]; simp [cntV]
    · rw [if_pos (by unfold goesB; simp [hd, hmx, hx]), hop, if_neg hx, Nat.one_mul, cnt_flat]
      congr 1
      refine List.map_congr_left (fun c hc => ?_)
      obtain ⟨h0, m, hm, hu⟩ := (h.kids k n hk c).1 hc
      obtain ⟨e1, e2⟩ := way_kid h hm h0 hu
      rw [nameAt_of hm, e1, ← e2]
/-- A node is gone to as often as its directory, if that can be read. -/
theorem cnt_up {L : List NodeD} {K : List ByteArray} (h : KInv L K) {deep : Bool} {mx : Int} (hmx : ∀ k, k < L.length → depK K k < mx) {j a : Nat} {m : NodeD} (hj : L[j]? = some m) (h0 : 0 < j) (ha : m.up = (a : Int)) :
    ∀ (f k : Nat), L.length < k + f → k < L.length → k ≠ j → cntV j (visG L deep mx f k (wayB K k) (depK K k)) = opD L a * cntV a (visG L deep mx f k (wayB K k) (depK K k)) := by
  intro f
  induction f with
  | zero => intro k h1 h2; omega
  | succ f ih =>
    intro k hf hkl hkj
    obtain ⟨n, hk⟩ : ∃ n, L[k]? = some n := ⟨_, List.getElem?_eq_getElem hkl⟩
    obtain ⟨_, a', _, _, _, h4, h5, _⟩ := h.node j m hj h0
    have : a' = a := by omega
    subst this
    have hkid : ∀ c ∈ n.kids, k < c ∧ c < L.length := by
      intro c hc
      obtain ⟨c0, mm, hm, hu⟩ := (h.kids k n hk c).1 hc
      obtain ⟨_, a2, _, _, _, q4, q5, _⟩ := h.node c mm hm c0
      have := (List.getElem?_eq_some_iff.1 hm).1
      omega
    rw [cnt_vis hk, cnt_vis hk, if_neg hkj, Nat.zero_add, cnt_below h hk (hmx k hkl), cnt_below h hk (hmx k hkl)]
    by_cases hka : k = a'
    · subst hka
      rw [if_pos rfl]
      have hz : (n.kids.map (fun c => cntV k (visG L deep mx f c (wayB K c) (depK K c)))).sum = 0 := sum_zero _ _ (fun c hc => cntv_zero h (hkid c hc).1)
      have ho : (n.kids.map (fun c => cntV j (visG L deep mx f c (wayB K c) (depK K c)))).sum = 1 := by
        refine sum_one _ j _ (h.knd k n hk) ((h.kids k n hk j).2 ⟨h0, m, hj, ha⟩) ?_ (fun c hc hne => ?_)
        · have hjl := (List.getElem?_eq_some_iff.1 hj).1
          cases f with
          | zero => have := (hkid j ((h.kids k n hk j).2 ⟨h0, m, hj, ha⟩)).1; omega
          | succ f =>
            rw [cnt_vis hj, if_pos rfl, cnt_below h hj (hmx j hjl)]
            rw [sum_zero _ _ (fun c hc => cntv_zero h ?_)]
            · rfl
            · obtain ⟨c0, mm, hm, hu⟩ := (h.kids j m hj c).1 hc
              obtain ⟨_, a2, _, _, _, q4, q5, _⟩ := h.node c mm hm c0
              omega
        · rw [ih c (by have := (hkid c hc).1; omega) (hkid c hc).2 hne, cntv_zero h (hkid c hc).1, Nat.mul_zero]
      rw [hz, ho, Nat.mul_one, Nat.mul_zero, Nat.add_zero, Nat.mul_one]
    · rw [if_neg hka, Nat.zero_add]
      rw [sum_mul n.kids (fun c => cntV j (visG L deep mx f c (wayB K c) (depK K c))) (fun c => cntV a' (visG L deep mx f c (wayB K c) (depK K c))) (opD L a') (fun c hc => ih c (by have := (hkid c hc).1; omega) (hkid c hc).2 (fun e => ?_))]
      · rw [← Nat.mul_assoc, ← Nat.mul_assoc, Nat.mul_comm (opD L k)]
      · subst e
        obtain ⟨c0, mm, hm, hu⟩ := (h.kids k n hk c).1 hc
        rw [hj] at hm; cases hm
        omega
theorem cnt_root {L : List NodeD} {K : List ByteArray} (h : KInv L K) {deep : Bool} {mx : Int} (hmx : ∀ k, k < L.length → depK K k < mx) {f : Nat} : cntV 0 (visG L deep mx (f + 1) 0 (wayB K 0) (depK K 0)) = 1 := by
  obtain ⟨n, hn⟩ : ∃ n, L[0]? = some n := ⟨_, List.getElem?_eq_getElem h.pos⟩
  rw [cnt_vis hn, if_pos rfl, cnt_below h hn (hmx 0 h.pos), sum_zero _ _ (fun c hc => cntv_zero h ((h.kids 0 n hn c).1 hc).1)]
  rfl
/-- No directory above a node is shut: as the law counts it. -/
def openD (L : List NodeD) : Nat → Nat → Nat
  | 0, _ => 1
  | f + 1, k => match L[k]? with
    | none => 1
    | some m => if m.up < 0 then 1 else opD L m.up.toNat * openD L f m.up.toNat
theorem cnt_open {L : List NodeD} {K : List ByteArray} (h : KInv L K) {deep : Bool} {mx : Int} (hmx : ∀ k, k < L.length → depK K k < mx) {f : Nat} (hf : L.length < f) : ∀ (g j : Nat), j ≤ g → j < L.length → cntV j (visG L deep mx f 0 (wayB K 0) (depK K 0)) = openD L g j := by
  intro g
  induction g with
  | zero =>
    intro j hg hj
    have : j = 0 := by omega
    subst this
    cases f with
    | zero => omega
    | succ f => exact cnt_root h hmx
  | succ g ih =>
    intro j hg hj
    obtain ⟨m, hm⟩ : ∃ m, L[j]? = some m := ⟨_, List.getElem?_eq_getElem hj⟩
    unfold openD
    rw [hm]
    simp only []
    by_cases h0 : j = 0
    · subst h0
      have := (h.root m hm).1
      rw [if_pos (by omega)]
      cases f with
      | zero => omega
      | succ f => exact cnt_root h hmx
    · obtain ⟨_, a, _, _, _, h4, h5, _⟩ := h.node j m hm (by omega)
      rw [if_neg (by omega), cnt_up h hmx hm (by omega) h4 f 0 (by omega) h.pos (fun e => h0 e.symm), ih a (by omega) (by omega), show m.up.toNat = a from by omega]
end Go.Proofs.YtfemboojdablhaaGreatDoor.Tre
