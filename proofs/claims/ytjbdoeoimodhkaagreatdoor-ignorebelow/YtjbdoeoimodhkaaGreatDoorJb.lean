/- Merged: IbA, IbN, IbO. -/
import Derived.Test.YtjbdoeoimodhkaaGreatDoorJig
import Derived.Test.YtjbdoeoimodhkaaGreatDoorJba
import Derived.Test.YtjbdoeoimodhkaaGreatDoorJa
import Derived.Test.YtjbdoeoimodhkaaGreatDoorTLoad
/- IgnoreBelow, plain: which rules there are, what they mean, what is passed over. -/
namespace Go.Proofs.YtjbdoeoimodhkaaGreatDoor
open Tre (NodeD dirD nameIs kidOf)

/-- A pattern means a name. -/
noncomputable def meansD (p n : ByteArray) : Bool := @decide (wrongD p = 0 ∧ ∃ ps, patD p.size p.data.toList = .ok ps ∧ InE (meanD true ps) n.data.toList) (Classical.propDecidable _)
/-- A rule means a path. -/
noncomputable def hitD (r : RuleD) (way : ByteArray) (dir : Bool) : Bool :=
  if r.dr && !dir then false else if r.fx then decide (wrongD r.pt = 0) && rowD meansD (partsS r.pt) (partsS way) else meansD r.pt (baseS way)

def ignS : ByteArray := ⟨#[46, 105, 103, 110, 111, 114, 101]⟩
/-- The rules that a directory has. -/
def rulesD (L : List NodeD) (d : Nat) : List RuleD := match L[d]? with
  | some n => (match n.kids.find? (nameIs L ignS) with
    | some c => (match L[c]? with
      | some m => if m.kind = 102 then rulesOf m.text else []
      | none => [])
    | none => [])
  | none => []
noncomputable def saysG (L : List NodeD) (dir : Bool) : List (Nat × ByteArray) → Bool
  | [] => false
  | (up, way) :: ds => match (rulesD L up).reverse.find? (fun r => hitD r way dir) with
    | some r => !r.nt
    | none => saysG L dir ds
noncomputable def saysD (L : List NodeD) (k : Nat) : Bool := saysG L (isDirK L k) (dirsK L k)
noncomputable def ignD (L : List NodeD) (k : Nat) : Bool := (dirsK L k).any (fun d => saysD L d.1) || saysD L k

theorem tok_load {s : ByteArray} {L : List NodeD} (hs : Tre.Srt (Tre.loadD s).1 L) : TOK L := by
  rcases Tre.loadD_told s with ⟨_, ⟨K, hK⟩, _⟩ | ⟨e, _⟩
  · exact tok_of hK hs
  · have := hs.len
    rw [e] at this
    rw [List.eq_nil_of_length_eq_zero this]
    exact tok_nil

theorem ign_up {L : List NodeD} {k : Nat} {n : NodeD} (hk : L[k]? = some n) {a : Nat} (ha : n.up = (a : Int)) (hlt : a < k) (hi : ignD L a = true) : ignD L k = true := by
  unfold ignD at hi ⊢
  rw [any_fst] at hi ⊢
  rw [dirsK_up hk ha hlt, List.any_cons]
  rcases Bool.or_eq_true _ _ ▸ hi with q | q
  · simp [q]
  · simp [q]
theorem ign_root {L : List NodeD} (h : TOK L) : ignD L 0 = false := by
  unfold ignD saysD
  rw [dirs_root h]
  rfl
end Go.Proofs.YtjbdoeoimodhkaaGreatDoor
/- means, Hits: what a rule means. -/
namespace Go.Proofs.YtjbdoeoimodhkaaGreatDoor
open Go.RowKit Go.Shelf

theorem GW.teller_keep {A A' : World} (h : GW A) (hb : Below 10 A A') : GW A' := ⟨h.mx.below (by decide) hb, h.tab.below (by decide) hb, Nat.lt_of_lt_of_le h.big hb.size⟩
set_option maxRecDepth 100000 in
set_option maxHeartbeats 2000000 in
theorem means_any (p q : ByteArray) (w : World) (hG : GW w) (hq : q.size ≤ 1000000) :
    Calls Tryz.prog 41 #[.string p, .string q] w fun e w' => e = .returned (.bool (meansD p q)) ∧ Below w.heap.size w w' := by
  have hg := gmatch_any p q true w hG (by omega)
  go_enter Tryz.func41, Tryz.ntmps41
  go_wp2_with fail
  refine hg.mono ?_
  rintro e w' ⟨r, rfl, hr, hb⟩
  have HV : Hid ((r && ((wrongD p : Int) == 0)) = meansD p q) := by
    unfold Hid meansD
    by_cases h0 : wrongD p = 0
    · obtain ⟨ps, hps⟩ : ∃ ps, patD p.size p.data.toList = .ok ps := by
        unfold wrongD at h0
        split at h0
        · cases h0
        · cases hp : patD p.size p.data.toList with
          | ok ps => exact ⟨ps, rfl⟩
          | text => rw [hp] at h0; cases h0
          | range n => rw [hp] at h0; cases h0
      have h1 := hr ps h0 hps
      have e1 : ((wrongD p : Int) == 0) = true := by rw [h0]; rfl
      rw [e1, Bool.and_true, Bool.eq_iff_iff, h1, @decide_eq_true_iff _ (Classical.propDecidable _)]
      constructor
      · intro h; exact ⟨h0, ps, hps, h⟩
      · rintro ⟨_, ps', hps', h⟩
        rw [hps] at hps'
        cases hps'
        exact h
    · have e1 : ((wrongD p : Int) == 0) = false := by rw [beq_eq_false_iff_ne]; omega
      rw [e1, Bool.and_false]
      exact (@decide_eq_false _ (Classical.propDecidable _) (fun h => h0 h.1)).symm
  have HB := hide hb
  clear hr hb hg
  cases r with
  | true =>
    go_wp2
    go_ret
    refine ⟨?_, HB.out⟩
    rw [← HV.out]; rfl
  | false =>
    go_wp2
    go_ret
    refine ⟨?_, HB.out⟩
    rw [← HV.out]; rfl
theorem gw_teller : Teller GW meansD := ⟨fun _ h => h.big, fun _ _ h hb => h.teller_keep hb, fun p q w hq hG => means_any p q w hG hq⟩
end Go.Proofs.YtjbdoeoimodhkaaGreatDoor
/- Hits: what a rule means. -/
namespace Go.Proofs.YtjbdoeoimodhkaaGreatDoor
open Go.RowKit Go.Shelf

theorem piece_le (c : UInt8) (l : List UInt8) : ∀ p ∈ splitL c l, p.length ≤ l.length := by
  induction l with
  | nil => intro p hp; simp [splitL] at hp; subst hp; simp
  | cons x r ih =>
    intro p hp
    by_cases h : x = c
    · subst h
      rw [split_same] at hp
      simp at hp
      rcases hp with rfl | hp
      · simp
      · have := ih p hp; simp; omega
    · obtain ⟨q, qs, e1, e2⟩ := split_other c x r h
      rw [e2] at hp
      rw [e1] at ih
      simp at hp
      rcases hp with rfl | hp
      · have := ih q (by simp); simp; omega
      · have := ih p (by simp [hp]); simp; omega
theorem cutS_le (c : UInt8) (s : ByteArray) : ∀ p ∈ cutS c s, p.size ≤ s.size := by
  intro p hp
  unfold cutS at hp
  obtain ⟨q, hq, rfl⟩ := List.mem_map.1 hp
  have := piece_le c s.data.toList q hq
  rw [← size_list, ← size_list s]
  exact this
theorem StrRow.up {B B' : Nat} {W : World} {v : Value} {xs : List ByteArray} (h : StrRow B W v xs) (hB : B ≤ B') : StrRow B' W v xs := by
  rcases h with h | ⟨g, cap, e, hg, hc, hx⟩
  · exact .inl h
  · exact .inr ⟨g, cap, e, by omega, hc, hx⟩
theorem parts_le (s : ByteArray) : ∀ p ∈ partsS s, p.size ≤ s.size := fun p hp => cutS_le 47 s p (List.mem_filter.1 hp).1
theorem base_le (s : ByteArray) : (baseS s).size ≤ s.size + 1 := by
  unfold baseS
  cases h : (partsS s).getLast? with
  | some x => exact Nat.le_succ_of_le (parts_le s x (List.mem_of_getLast? h))
  | none =>
    dsimp only
    split
    · exact Nat.zero_le _
    · show 1 ≤ _; omega
set_option maxRecDepth 100000 in
set_option maxHeartbeats 4000000 in
theorem hits_any (r : RuleD) (way : ByteArray) (dir : Bool) (w : World) (hG : GW w) (hw : way.size ≤ 100000) (hp : r.pt.size ≤ 100000) :
    Calls Tryz.prog 32 #[.agg #[.bool r.nt, .bool r.dr, .bool r.fx, .string r.pt], .string way, .bool dir] w fun e w' => e = .returned (.bool (hitD r way dir)) ∧ Below w.heap.size w w' := by
  obtain ⟨nt, dr, fx, pt⟩ := r
  dsimp only at hp ⊢
  obtain ⟨W0, hW0⟩ : ∃ W0, w.alloc (.cells #[.bool nt, .bool dr, .bool fx, .string pt] 75) = W0 := ⟨_, rfl⟩
  have hb0 : Below w.heap.size w W0 := by rw [← hW0]; exact (Below.refl _ _).alloc (Nat.le_refl _) _
  have hbx : W0.heap[w.heap.size]? = some (.cells #[.bool nt, .bool dr, .bool fx, .string pt] 75) := by rw [← hW0]; exact World.alloc_heap_new w _
  have k1 : W0.cell? ⟨w.heap.size, 1, none⟩ = some (.bool dr) := by simp [World.cell?, hbx]
  have k2 : W0.cell? ⟨w.heap.size, 2, none⟩ = some (.bool fx) := by simp [World.cell?, hbx]
  have k3 : W0.cell? ⟨w.heap.size, 3, none⟩ = some (.string pt) := by simp [World.cell?, hbx]
  have hG0 : GW W0 := hG.below hb0
  have HB0 := hide hb0
  have HW := hide hW0
  clear hbx hb0 hW0
  by_cases hdd : dr = true ∧ dir = false
  · obtain ⟨rfl, rfl⟩ := hdd
    go_enter Tryz.func32, Tryz.ntmps32
    go_wp2_with (rw [HW.out])
    go_ret
    exact ⟨rfl, HB0.out⟩
  · have hcd : (dr && !dir) = false := by
      cases dr <;> cases dir <;> simp at hdd ⊢
    have HH : Hid (hitD ⟨nt, dr, fx, pt⟩ way dir = (if fx then decide (wrongD pt = 0) && rowD meansD (partsS pt) (partsS way) else meansD pt (baseS way))) := by
      unfold Hid hitD
      dsimp only
      rw [hcd]
      rfl
    have hbl := base_le way
    have HBA := hide (base_any way W0.drew (by omega))
    have hGd : GW W0.drew := hG0.teller_keep (Below.refl _ _).drew
    have HME := hide (means_any pt (baseS way) W0.drew hGd (by omega))
    have HTA := hide (takes_any pt W0 hG0.mx (by have := hG0.big; omega))
    clear hG hGd
    cases fx with
    | false =>
      clear HTA
      cases dr with
      | false =>
        cases dir with
        | false =>
          clear hcd hdd
          go_enter Tryz.func32, Tryz.ntmps32
          go_wp2_with (rw [HW.out])
          refine (fun (KEY : ∀ w', Below W0.heap.size W0.drew w' → (?G1 : World → Prop) w') => ?main1) ?key1
          case main1 =>
            go_region_law (first
              | (refine step_calls rfl 42 #[.tmp 18] #[9] rfl #[.string way] (by simp only [List.map_toArray, List.map_cons, List.map_nil]; rfl) (enters_of Tryz.func42 (by kernel_rfl) rfl) (unhide HBA) ?_; rintro e w6' ⟨he6, hw6⟩; refine ⟨_, he6, ?_⟩; rw [hw6])
              | (refine step_calls rfl 41 #[.tmp 17, .tmp 19] #[9, 9] rfl #[.string pt, .string (baseS way)] (by simp only [List.map_toArray, List.map_cons, List.map_nil]; rfl) (enters_of Tryz.func41 (by kernel_rfl) rfl) (unhide HME) ?_; rintro e w6 ⟨he6, hb6⟩; refine ⟨_, he6, ?_⟩))
            all_goals exact KEY _ hb6
          case key1 =>
            intro w6 hb6
            have HB6 : Hid (Below w.heap.size w w6) := HB0.out.trans (((Below.refl _ W0).drew.trans hb6).mono HB0.out.size)
            clear hb6
            go_wp2
            go_ret
            refine ⟨?_, HB6.out⟩
            rw [HH.out]; rfl
        | true =>
          clear hcd hdd
          go_enter Tryz.func32, Tryz.ntmps32
          go_wp2_with (rw [HW.out])
          refine (fun (KEY : ∀ w', Below W0.heap.size W0.drew w' → (?G2 : World → Prop) w') => ?main2) ?key2
          case main2 =>
            go_region_law (first
              | (refine step_calls rfl 42 #[.tmp 18] #[9] rfl #[.string way] (by simp only [List.map_toArray, List.map_cons, List.map_nil]; rfl) (enters_of Tryz.func42 (by kernel_rfl) rfl) (unhide HBA) ?_; rintro e w6' ⟨he6, hw6⟩; refine ⟨_, he6, ?_⟩; rw [hw6])
              | (refine step_calls rfl 41 #[.tmp 17, .tmp 19] #[9, 9] rfl #[.string pt, .string (baseS way)] (by simp only [List.map_toArray, List.map_cons, List.map_nil]; rfl) (enters_of Tryz.func41 (by kernel_rfl) rfl) (unhide HME) ?_; rintro e w6 ⟨he6, hb6⟩; refine ⟨_, he6, ?_⟩))
            all_goals exact KEY _ hb6
          case key2 =>
            intro w6 hb6
            have HB6 : Hid (Below w.heap.size w w6) := HB0.out.trans (((Below.refl _ W0).drew.trans hb6).mono HB0.out.size)
            clear hb6
            go_wp2
            go_ret
            refine ⟨?_, HB6.out⟩
            rw [HH.out]; rfl
      | true =>
        cases dir with
        | false => exact absurd ⟨rfl, rfl⟩ hdd
        | true =>
          clear hcd hdd
          go_enter Tryz.func32, Tryz.ntmps32
          go_wp2_with (rw [HW.out])
          refine (fun (KEY : ∀ w', Below W0.heap.size W0.drew w' → (?G3 : World → Prop) w') => ?main3) ?key3
          case main3 =>
            go_region_law (first
              | (refine step_calls rfl 42 #[.tmp 18] #[9] rfl #[.string way] (by simp only [List.map_toArray, List.map_cons, List.map_nil]; rfl) (enters_of Tryz.func42 (by kernel_rfl) rfl) (unhide HBA) ?_; rintro e w6' ⟨he6, hw6⟩; refine ⟨_, he6, ?_⟩; rw [hw6])
              | (refine step_calls rfl 41 #[.tmp 17, .tmp 19] #[9, 9] rfl #[.string pt, .string (baseS way)] (by simp only [List.map_toArray, List.map_cons, List.map_nil]; rfl) (enters_of Tryz.func41 (by kernel_rfl) rfl) (unhide HME) ?_; rintro e w6 ⟨he6, hb6⟩; refine ⟨_, he6, ?_⟩))
            all_goals exact KEY _ hb6
          case key3 =>
            intro w6 hb6
            have HB6 : Hid (Below w.heap.size w w6) := HB0.out.trans (((Below.refl _ W0).drew.trans hb6).mono HB0.out.size)
            clear hb6
            go_wp2
            go_ret
            refine ⟨?_, HB6.out⟩
            rw [HH.out]; rfl
    | true =>
      clear HBA HME
      cases dr <;> cases dir
      all_goals
        first
        | (exfalso; simp at hdd; done)
        | (clear hcd hdd
           go_enter Tryz.func32, Tryz.ntmps32
           go_wp2_with (rw [HW.out])
           refine (unhide HTA).mono ?_
           rintro e w1 ⟨rfl, hb1⟩
           have HB1 := hide (HB0.out.trans (hb1.mono HB0.out.size))
           cases hwp : decide (wrongD pt = 0)
           · clear hb1
             go_wp2
             go_ret
             refine ⟨?_, HB1.out⟩
             rw [HH.out, hwp]; rfl
           · have hlt : w.heap.size < W0.heap.size := by rw [← HW.out]; simp
             have k3' := (hb1.cell (p := ⟨w.heap.size, 3, none⟩) hlt).trans k3
             have hP1 := parts_any pt w1 (by omega)
             have HG1 := hide (hG0.below hb1)
             clear hb1
             go_wp2_with fail
             refine hP1.mono ?_
             rintro e w2 ⟨v2, rfl, hown2, hb2⟩
             obtain ⟨a2, c2, rfl⟩ : ∃ a c, v2 = .slice a (partsS pt).length c := by
               rcases hown2.2 with ⟨e, h0⟩ | ⟨g, c, cur, e, _⟩
               · exact ⟨none, 0, by rw [e, show (partsS pt).length = 0 from h0]⟩
               · exact ⟨_, _, e⟩
             have HR2 := hide (StrRow.of_owns hown2)
             have HB2 := hide hb2
             have HG2 := hide (HG1.out.below hb2)
             have hP2 := parts_any way w2 (by omega)
             clear hown2 hb2 hP1 k3'
             go_wp2_with fail
             refine hP2.mono ?_
             rintro e w3 ⟨v3, rfl, hown3, hb3⟩
             obtain ⟨a3, c3, rfl⟩ : ∃ a c, v3 = .slice a (partsS way).length c := by
               rcases hown3.2 with ⟨e, h0⟩ | ⟨g, c, cur, e, _⟩
               · exact ⟨none, 0, by rw [e, show (partsS way).length = 0 from h0]⟩
               · exact ⟨_, _, e⟩
             have hl1 := partsS_length pt
             have hl2 := partsS_length way
             have hRM := rowMeans_any GW meansD gw_teller a2 a3 c2 c3 w3.heap.size (partsS pt) (partsS way) w3 (HG2.out.below hb3) (Nat.le_refl _) ((HR2.out.below hb3).up hb3.size) (StrRow.of_owns hown3) (by omega) (by omega) (fun q hq => by have := parts_le way q hq; omega)
             have HB3 : Hid (Below w.heap.size w w3) := HB1.out.trans ((HB2.out.trans (hb3.mono HB2.out.size)).mono HB1.out.size)
             clear hown3 hb3 hP2 hl1 hl2
             go_wp2_with fail
             refine hRM.mono ?_
             rintro e w4 ⟨rfl, hb4⟩
             have HB4 : Hid (Below w.heap.size w w4) := HB3.out.trans (hb4.mono HB3.out.size)
             clear hb4 hRM
             go_wp2
             go_ret
             refine ⟨?_, HB4.out⟩
             rw [HH.out, hwp]; rfl)
end Go.Proofs.YtjbdoeoimodhkaaGreatDoor
