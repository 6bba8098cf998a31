/- Way: a node's path. -/
import Derived.Test.YtconbmfbokpklaaGreatDoorGNodes
import Derived.Test.YtconbmfbokpklaaGreatDoorSame
import Derived.Test.YtconbmfbokpklaaGreatDoorShelfW
namespace Go.Proofs.YtconbmfbokpklaaGreatDoor
open Go.RowKit

/-- The nodes L have the paths K. -/
structure PathL (L : List NodeD) (K : List ByteArray) : Prop where
  len : K.length = L.length
  key0 : K[0]? = some (bs [])
  node : ∀ (i : Nat) (n : NodeD), L[i]? = some n → 0 < i → ∃ (way : ByteArray) (a : Nat), K[i]? = some way ∧ (cutS 47 way).all nameOk = true ∧ n.name = lastS way ∧ n.up = (a : Int) ∧ a < i ∧ K[a]? = some (upS way)
theorem path_of {R L : List NodeD} {K : List ByteArray} (h : KInv R K) (hs : Srt R L) : PathL L K := by
  refine ⟨h.len.trans hs.len.symm, h.key0, fun i n hn hi => ?_⟩
  obtain ⟨m, hm, e, _⟩ := hs.back hn
  obtain ⟨way, a, h1, h2, h3, h4, h5, h6⟩ := h.node i m hm hi
  exact ⟨way, a, h1, h2, by rw [e]; exact h3, by rw [e]; exact h4, h5, h6⟩
theorem join_lib : ∀ (l : List (List UInt8)), Lib.join l [47] = joinL l := by
  intro l
  induction l with
  | nil => rfl
  | cons p r ih =>
    cases r with
    | nil => rw [Lib.join_one]; rfl
    | cons q qs =>
      rw [Lib.join_cons]
      show p ++ Lib.joinTail [47] (q :: qs) = p ++ 47 :: joinL (q :: qs)
      rw [← ih, Lib.join_cons]
      simp [Lib.joinTail]
/-- What the climb has gathered. -/
def Climb (K : List ByteArray) (k0 k : Nat) (xs : List ByteArray) : Prop := ∃ w0 w, K[k0]? = some w0 ∧ K[k]? = some w ∧ namesL w0 = namesL w ++ xs.reverse.map (fun x => x.data.toList)
theorem climb_start {K : List ByteArray} {k : Nat} {w : ByteArray} (h : K[k]? = some w) : Climb K k k [] := ⟨w, w, h, h, by simp⟩
theorem climb_step {L : List NodeD} {K : List ByteArray} (hp : PathL L K) {k0 k a : Nat} {xs : List ByteArray} {n : NodeD} (h : Climb K k0 k xs) (hn : L[k]? = some n) (hk : 0 < k) (ha : n.up = (a : Int)) : Climb K k0 a (xs ++ [n.name]) ∧ a < k := by
  obtain ⟨w0, w, h0, h1, e⟩ := h
  obtain ⟨way, a', h2, h3, h4, h5, h6, h7⟩ := hp.node k n hn hk
  rw [h1] at h2
  cases h2
  have : a' = a := by omega
  subst this
  refine ⟨⟨w0, _, h0, h7, ?_⟩, h6⟩
  rw [e, names_parts h3, h4]
  simp
theorem climb_end {K : List ByteArray} {k0 : Nat} {xs : List ByteArray} {w0 : ByteArray} (h : Climb K k0 0 xs) (h0 : K[0]? = some (bs [])) (hw : K[k0]? = some w0) : namesL w0 = xs.reverse.map (fun x => x.data.toList) := by
  obtain ⟨w1, w, h1, h2, e⟩ := h
  rw [h0] at h2
  cases h2
  rw [hw] at h1
  cases h1
  rw [e]
  rfl
theorem way_joined {w : ByteArray} (h : (cutS 47 w).all nameOk = true) : joinL (namesL w) = w.data.toList := by
  rw [names_way h, join_split]

theorem row_cell1 {B n m cap g : Nat} {W : World} {xs : List ByteArray} (h : W.ownsRow B 9 1 (.slice (some ⟨g, 0, none⟩) m cap) n (xs.map Value.string)) {j : Nat} {x : ByteArray} (hj : xs[j]? = some x) : W.cell? ⟨g, j, none⟩ = some (.string x) := by
  rcases h.2 with ⟨e, _⟩ | ⟨g', cap', cur, e, _, hg, hn, _, hs, ht⟩
  · cases e
  · cases e
    have hj' : j < xs.length := (List.getElem?_eq_some_iff.1 hj).1
    have hl := h.1
    rw [List.length_map] at hl
    have e1 : (cur.toList.take (n * 1))[j]? = some (.string x) := by rw [ht, List.getElem?_map, hj]; rfl
    rw [List.getElem?_take_of_lt (by omega)] at e1
    simp only [World.cell?, hg]
    simpa using e1
theorem strs_map (xs : List ByteArray) : (Lib.strsOf (fun i => xs.getD i (bs [])) xs.length).reverse.map encStr = xs.reverse.map Value.string := by
  have e : Lib.strsOf (fun i => xs.getD i (bs [])) xs.length = xs.map (fun x => x.data.toList) := by
    unfold Lib.strsOf
    apply List.ext_getElem?
    intro j
    rw [List.getElem?_map, List.getElem?_map]
    by_cases hj : j < xs.length
    · rw [List.getElem?_range hj, List.getElem?_eq_getElem hj]
      simp [List.getD, List.getElem?_eq_getElem hj]
    · rw [List.getElem?_eq_none (by simp; omega), List.getElem?_eq_none (by omega)]
      rfl
  rw [e, ← List.map_reverse, List.map_map]
  rfl
theorem setCells_size (b : Nat) : ∀ (vs : List Value) (o : Nat) (w : World), (w.setCells b o vs).heap.size = w.heap.size := by
  intro vs
  induction vs with
  | nil => intro o w; rfl
  | cons v r ih => intro o w; rw [World.setCells, ih]; exact setc_size
theorem setCells_block (b : Nat) : ∀ (vs : List Value) (o : Nat) (w : World) (k : Nat), k ≠ b → (w.setCells b o vs).heap[k]? = w.heap[k]? := by
  intro vs
  induction vs with
  | nil => intro o w k _; rfl
  | cons v r ih => intro o w k h; rw [World.setCells, ih _ _ _ h]; exact setc_block h
theorem setCells_below {B b : Nat} (hb : B ≤ b) : ∀ (vs : List Value) (o : Nat) (w : World), Below B w (w.setCells b o vs) := by
  intro vs
  induction vs with
  | nil => intro o w; exact Below.refl _ _
  | cons v r ih =>
    intro o w
    rw [World.setCells]
    have h1 : Below B w (w.setCell ⟨b, o, none⟩ v) := ⟨rfl, rfl, rfl, by rw [setc_size]; exact Nat.le_refl _, fun k hk => setc_block (by omega)⟩
    exact h1.trans (ih (o + 1) _)
/-- The names the other way round. -/
theorem wrev_any (B g cap : Nat) (xs : List ByteArray) (w : World) (h : w.ownsRow B 9 1 (.slice (some ⟨g, 0, none⟩) xs.length cap) xs.length (xs.map Value.string)) (hl : xs.length ≤ 1000) :
    Calls Tryz.prog 31 #[.slice (some ⟨g, 0, none⟩) xs.length cap] w fun e w' => e = .returned (.tuple #[]) ∧ (∀ (j : Nat) (x : ByteArray), xs.reverse[j]? = some x → w'.cell? ⟨g, j, none⟩ = some (.string x)) ∧ w'.heap.size = w.heap.size ∧ Below B w w' := by
  have hcell : ∀ i, i < xs.length → w.cell? ⟨g, 0 + i, none⟩ = some (.string ((fun i => xs.getD i (bs [])) i)) := by
    intro i hi
    rw [Nat.zero_add]
    refine row_cell1 h ?_
    rw [List.getElem?_eq_getElem hi]
    simp [List.getD, List.getElem?_eq_getElem hi]
  have hg := h.lt g rfl
  refine (Tryz.slices_Reverse_string_cells g 0 xs.length cap (fun i => xs.getD i (bs [])) w (by omega) hcell (fun j _ => own_frozen h _)).mono ?_
  rintro e w' ⟨rfl, q, rfl⟩
  rw [strs_map]
  refine ⟨rfl, fun j x hj => ?_, by rw [setCells_size]; rfl, (below_drewN (Below.refl _ _) q).trans (setCells_below hg.1 _ _ _)⟩
  obtain ⟨hj1, hj2⟩ := List.getElem?_eq_some_iff.1 hj
  have := World.cell?_setCells_in g (xs.reverse.map Value.string) 0 (w.drewN q) (fun i hi => by
    rw [List.length_map, List.length_reverse] at hi
    rw [show (w.drewN q).cell? ⟨g, 0 + i, none⟩ = w.cell? ⟨g, 0 + i, none⟩ from rfl, hcell i hi]
    rfl) j (by rw [List.length_map]; exact hj1)
  rw [Nat.zero_add] at this
  rw [this, List.getElem_map, hj2]

set_option maxRecDepth 100000 in
set_option maxHeartbeats 4000000 in
theorem way_any (C : Nat) (v : Value) (L : List NodeD) (K : List ByteArray) (k : Nat) (way : ByteArray) (w : World) (hp : PathL L K) (hL : L.length ≤ 201) (h0 : 0 < k) (hk : k < L.length) (hw : K[k]? = some way) (hws : way.size ≤ 1000000) (hrow : NodeRow C w v L) (hC : C ≤ w.heap.size) :
    Calls Tryz.prog 13 #[v, .int .i64 (k : Int)] w fun e w' => e = .returned (.string way) ∧ Below w.heap.size w w' := by
  obtain ⟨i0, hi, hz0, hz1, hz2⟩ := info_parts Tryz.info9
  obtain ⟨n0, hn0⟩ : ∃ n, L[k]? = some n := ⟨_, List.getElem?_eq_getElem hk⟩
  obtain ⟨a, cap, rfl⟩ := hrow.form
  obtain ⟨g, rfl⟩ : ∃ g, a = some ⟨g, 0, none⟩ := by
    obtain ⟨g, _, _, _, rfl, _⟩ := hrow.at hn0
    exact ⟨g, rfl⟩
  have hok : (cutS 47 way).all nameOk = true := by
    obtain ⟨wy, _, hwy, hok, _⟩ := hp.node k n0 hn0 h0
    rw [hw] at hwy
    cases hwy
    exact hok
  have HROW := hide hrow
  have HP := hide hp
  have HW := hide hw
  have HOK := hide hok
  clear hrow hp hw hok hn0
  go_enter Tryz.func13, Tryz.ntmps13
  go_wp2
  go_loopw [1, 5] (fun kv nv wr => ∃ (j : Nat) (xs : List ByteArray), j ≤ k ∧ kv = .int .i64 j ∧ Climb K k j xs ∧ xs.length + j ≤ k ∧ (j < k → 0 < xs.length) ∧ wr.ownsRow w.heap.size 9 1 nv xs.length (xs.map Value.string) ∧ Below w.heap.size w wr) (fun kv _ _ => (intOf kv).toNat)
  case atStart => exact ⟨k, [], Nat.le_refl _, rfl, climb_start HW.out, by simp, fun h => absurd h (Nat.lt_irrefl _), World.ownsRow_nil _ _ _ _, Below.refl _ _⟩
  case round =>
    obtain ⟨j, xs, hj, rfl, hcl, hxl, hpos, hown, hnx⟩ := hrel
    by_cases hj0 : 0 < j
    · obtain ⟨n, hn⟩ : ∃ n, L[j]? = some n := ⟨_, List.getElem?_eq_getElem (by omega)⟩
      obtain ⟨b, hub⟩ : ∃ b : Nat, n.up = (b : Int) := by
        obtain ⟨_, b, _, _, _, hub, _⟩ := HP.out.node j n hn hj0
        exact ⟨b, hub⟩
      obtain ⟨hcl2, hbj⟩ := climb_step HP.out hcl hn hj0 hub
      obtain ⟨g', ka, km, kc, e, hg', _, ⟨p0, p1, p2, p3, p4, p5, p6⟩, _⟩ := (HROW.out.below (hnx.mono hC)).at hn
      cases e
      rw [hub] at p2
      have HCL := hide hcl2
      have HUB := hide hub
      have hjI : (j : Int) < (L.length : Int) := by omega
      have hj1 : (0 : Int) < (j : Int) := by omega
      have hbI : ¬ (j : Int) ≤ (b : Int) := by omega
      have HN := hide hn
      clear hcl hcl2 hn hub hpos
      go_wp2_with (at_builtin; refine wpList_append_own _ rfl _ _ 55 rfl w.heap.size 9 i0 (.string ⟨#[]⟩) 1 16 Tryz.underlying55 hi hz0 hz1 hz2 rfl (by decide) _ _ _ rfl (hown.alloc _) ⟨wr.heap.size, 0, none⟩ 1 1 [.string n.name] rfl rfl (cell_one_new _ _ _) (by simp [Value.oneCell']) (by unfold maxLen; omega) (by omega) (by have := hnx.size; simp; omega) ?_; intro v' w1 hown' hgrow _; have HB := hide (below_push hnx.size hnx hown hgrow); obtain ⟨_, _, _, _, e2, _, _, ⟨_, _, q2, _⟩, _⟩ := (HROW.out.below (HB.out.mono hC)).at HN.out; cases e2; rw [HUB.out] at q2)
      go_roundw
      case rel => exact ⟨b, xs ++ [n.name], by omega, rfl, HCL.out, by simp; omega, fun _ => by simp, row_push hown', HB.out⟩
      case measure => simp [intOf]; omega
    · obtain rfl : j = 0 := by omega
      have hx0 := hpos h0
      have HEND := hide (climb_end hcl HP.out.key0 HW.out)
      obtain ⟨g2, cap2, hg2⟩ : ∃ g2 cap2, u5 = .slice (some ⟨g2, 0, none⟩) xs.length cap2 := by
        rcases hown.2 with ⟨_, e⟩ | ⟨g2, cap2, cur, e, _⟩
        · omega
        · exact ⟨g2, cap2, e⟩
      subst hg2
      have HRV := hide (wrev_any w.heap.size g2 cap2 xs wr hown (by omega))
      have hg2l := hown.lt g2 rfl
      have hcap2 : xs.length ≤ cap2 := by
        rcases hown.2 with ⟨e, _⟩ | ⟨g3, cap3, cur, e, _, _, hn, _⟩
        · cases e
        · cases e; omega
      have HNX := hide hnx
      clear hcl hown hnx hpos
      go_wp2_with fail
      refine (unhide HRV).mono ?_
      rintro e w2 ⟨rfl, hcells, hsz, hb2⟩
      have hjl : Lib.join (xs.reverse.map (·.data.toList)) [47] = way.data.toList := by
        rw [join_lib, ← HEND.out, way_joined HOK.out]
      have HJ : Hid (Calls Tryz.prog 28 #[.slice (some ⟨g2, 0, none⟩) xs.reverse.length cap2, .string ⟨#[47]⟩] w2 fun e w' => e = .returned (.string way) ∧ Below w2.heap.size w2 w') := by
        refine (Tryz.strings_Join g2 0 cap2 xs.reverse ⟨#[47]⟩ w2 (fun j x h => by rw [Nat.zero_add]; exact hcells j x h) (by omega) (by rw [List.length_reverse]; omega) (by rw [List.length_reverse]; exact hcap2) (by
          show (Lib.join (xs.reverse.map (·.data.toList)) [47]).length ≤ _
          rw [hjl, size_list]; omega)).mono ?_
        rintro e w' ⟨rfl, h⟩
        refine ⟨?_, h⟩
        show Ending.returned (Value.string ⟨(Lib.join (xs.reverse.map (·.data.toList)) [47]).toArray⟩) = _
        rw [hjl]
      rw [List.length_reverse] at HJ
      have HB2 := hide (HNX.out.trans hb2)
      have hzz := HB2.out.size
      clear hcells hb2 hsz hjl
      go_wp2_with fail
      refine (unhide HJ).mono ?_
      rintro e w3 ⟨rfl, hb3⟩
      have HB3 := hide (HB2.out.trans (hb3.mono hzz))
      clear hb3
      go_wp2
      go_ret
      exact ⟨rfl, HB3.out⟩
end Go.Proofs.YtconbmfbokpklaaGreatDoor
