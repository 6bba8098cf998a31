/- Merged: IbW, IbX. -/
import Derived.Test.YtjbdoeoimodhkaaGreatDoorJe
import Derived.Test.YtjbdoeoimodhkaaGreatDoorTCopyN
/- The law IgnoreBelow: its walk. -/
namespace Go.Proofs.YtjbdoeoimodhkaaGreatDoor
open Go.RowKit Go.Shelf Go.Maps
open Tre (NodeD NodeRow dirD Sn)

theorem Sn.up {C C' : Nat} {a6 a2 a4 : Addr} {W : World} (h : Sn C a6 a2 a4 W) (hC : C ≤ C') : Sn C' a6 a2 a4 W :=
  ⟨h.c0, h.c2, h.c3, ⟨Nat.lt_of_lt_of_le h.p6.1 hC, h.p6.2⟩, ⟨Nat.lt_of_lt_of_le h.p2.1 hC, h.p2.2⟩, ⟨Nat.lt_of_lt_of_le h.p4.1 hC, h.p4.2⟩, h.n62, h.n64⟩
def ownS : ByteArray := ⟨#[116, 9, 46, 105, 103, 110, 111, 114, 101, 9, 49, 9, 97, 10, 100, 9, 97, 10, 102, 9, 97, 47, 98, 9, 49, 9, 49, 10]⟩
def ownR : List NodeD := [⟨100, ⟨#[]⟩, -1, 0, 0, ⟨#[]⟩, [1, 2]⟩, ⟨102, ⟨#[46, 105, 103, 110, 111, 114, 101]⟩, 0, 1, 1, ⟨#[97]⟩, []⟩, ⟨100, ⟨#[97]⟩, 0, 0, 0, ⟨#[]⟩, [3]⟩, ⟨102, ⟨#[98]⟩, 2, 1, 1, ⟨#[]⟩, []⟩]
theorem own_load : (Tre.loadD ownS).1 = ownR := by kernel_rfl
theorem means_a : meansD ⟨#[97]⟩ ⟨#[97]⟩ = true := by
  unfold meansD
  rw [@decide_eq_true_iff _ (Classical.propDecidable _)]
  exact ⟨by kernel_rfl, [.lit 97], by kernel_rfl, .row _ _ _ (.cons _ _ [97] [] (.byte _ _ 97 (by simp)) .nil)⟩
theorem own_srt : Tre.Srt ownR ownR := by
  refine ⟨rfl, fun i n h => ⟨n.kids, ?_, List.Perm.refl _, ?_⟩⟩
  · rw [h]; rfl
  · match i, h with
    | 0, h =>
      cases h
      refine List.Pairwise.cons (fun b hb => ?_) (List.Pairwise.cons (fun b hb => (by cases hb)) List.Pairwise.nil)
      rw [List.mem_singleton.1 hb]
      show Op.bytesLess _ _ = true
      kernel_rfl
    | 1, h => cases h; exact List.Pairwise.nil
    | 2, h => cases h; exact List.Pairwise.cons (fun b hb => (by cases hb)) List.Pairwise.nil
    | 3, h => cases h; exact List.Pairwise.nil
    | i + 4, h => simp [ownR] at h
theorem own_rules : rulesD ownR 0 = [⟨false, false, false, ⟨#[97]⟩⟩] := by kernel_rfl
theorem own_says : saysD ownR 2 = true := by
  unfold saysD
  have e1 : dirsK ownR 2 = [(0, ⟨#[97]⟩)] := by kernel_rfl
  have e2 : isDirK ownR 2 = true := rfl
  rw [e1, e2, saysG, own_rules]
  have e3 : hitD ⟨false, false, false, ⟨#[97]⟩⟩ ⟨#[97]⟩ true = true := by
    unfold hitD
    have e4 : baseS ⟨#[97]⟩ = ⟨#[97]⟩ := by kernel_rfl
    dsimp only
    rw [e4, means_a]
    rfl
  simp [e3]
theorem own_ign2 : ignD ownR 2 = true := by unfold ignD; rw [own_says, Bool.or_true]
theorem own_ign3 : ignD ownR 3 = true := by
  unfold ignD
  have e1 : dirsK ownR 3 = [(2, ⟨#[98]⟩), (0, ⟨#[97, 47, 98]⟩)] := by kernel_rfl
  rw [e1]
  simp [own_says]
end Go.Proofs.YtjbdoeoimodhkaaGreatDoor
/- The law IgnoreBelow: its walk. -/
namespace Go.Proofs.YtjbdoeoimodhkaaGreatDoor
open Go.RowKit Go.Shelf Go.Maps
open Tre (NodeD NodeRow dirD Sn)

theorem snUp {C C' : Nat} {a6 a2 a4 : Addr} {W : World} (h : Sn C a6 a2 a4 W) (hC : C ≤ C') : Sn C' a6 a2 a4 W :=
  ⟨h.c0, h.c2, h.c3, ⟨Nat.lt_of_lt_of_le h.p6.1 hC, h.p6.2⟩, ⟨Nat.lt_of_lt_of_le h.p2.1 hC, h.p2.2⟩, ⟨Nat.lt_of_lt_of_le h.p4.1 hC, h.p4.2⟩, h.n62, h.n64⟩
/-- Ignored, of nodes that lie below C. -/
theorem igs_any (a6 a2 a4 : Addr) (C : Nat) (ga : Option Addr) (gc : Nat) (L : List NodeD) (hT : TOK L) (W : World) (hG : GW W) (hS : Sn C a6 a2 a4 W) (h10 : 10 ≤ C) (hrow : NodeRow C W (.slice ga L.length gc) L) (hC : C ≤ W.heap.size) (k : Nat) (hk : k < L.length ∨ (L = [] ∧ k = 0)) :
    Calls Tryz.prog 6 #[.slice ga L.length gc, .int .i64 (k : Int)] W fun e W' => e = .returned (.bool (ignD L k)) ∧ Below W.heap.size W W' := by
  by_cases h0 : L = []
  · subst h0
    obtain rfl : k = 0 := by
      rcases hk with h | h
      · simp at h
      · exact h.2
    refine (ignored_nil ga gc 0 W (Int.le_refl _)).mono fun e W' h => ⟨?_, h.2⟩
    rw [ign_root tok_nil]
    exact h.1
  · have hlt : k < L.length := by
      rcases hk with h | h
      · exact h
      · exact absurd h.1 h0
    have hrow' := hrow
    rcases hrow with ⟨_, e⟩ | ⟨g, cap, e, _⟩
    · exact absurd e h0
    · injection e with e1 e2 e3
      subst e1
      subst e3
      exact ignored_any a6 a2 a4 C g gc L hT k hlt W hG hS h10 hrow' hC
set_option maxRecDepth 100000 in
set_option maxHeartbeats 8000000 in
theorem below_any (a6 a2 a4 : Addr) (s : ByteArray) (w : World) (hs : s.size ≤ maxLen) (hG : GW w) (hS : Sn w.heap.size a6 a2 a4 w) :
    Calls Tryz.prog 3 #[.string s] w fun e w' => e = .returned (.bool true) ∧ Below w.heap.size w w' := by
  have hbig := hG.big
  have HLO := hide (Tre.refload_any s w hs)
  have HG := hide hG
  have HS := hide hS
  clear hG hS hs
  go_enter Tryz.func3, Tryz.ntmps3
  go_wp2_with fail
  refine (unhide HLO).mono ?_
  rintro e w1 ⟨v, lk, rfl, hown, hsrt, hb1⟩
  obtain ⟨L, hL⟩ : ∃ L, lk.map (·.1) = L := ⟨_, rfl⟩
  have hrow := hown.row
  rw [hL] at hsrt hrow
  have hT : TOK L := tok_load hsrt
  obtain ⟨va, vc, rfl⟩ := hrow.form
  have HROW := hide hrow
  have HT := hide hT
  have HB1 := hide hb1
  have hlen := hT.len
  have HNO := hide (Tre.nodes_any w1.heap.size _ L w1 hlen (fun i n h => (hT.kids i n h).1) hrow (Nat.le_refl _))
  clear hown hsrt hrow hT hb1 hL HLO
  go_wp2_with fail
  refine (unhide HNO).mono ?_
  rintro e w2 ⟨v2, l2, rfl, hown2, hmap, hb2⟩
  have hrow2 := hown2.row
  rw [hmap] at hrow2
  obtain ⟨ga, gc, rfl⟩ := hrow2.form
  have hb02 := HB1.out.trans (hb2.mono HB1.out.size)
  have hz2 := hb02.size
  have IG : ∀ (W : World), Below w2.heap.size w2 W → ∀ k : Nat, (k < L.length ∨ (L = [] ∧ k = 0)) → Hid (Calls Tryz.prog 6 #[.slice ga L.length gc, .int .i64 (k : Int)] W fun e W' => e = .returned (.bool (ignD L k)) ∧ Below W.heap.size W W') := fun W hB k hk => hide (by
    have hB0 : Below w.heap.size w W := hb02.trans (hB.mono hz2)
    exact igs_any a6 a2 a4 w2.heap.size ga gc L HT.out W (HG.out.below hB0) (snUp (HS.out.below hB0 (by omega)) hz2) (by omega) (hrow2.below hB) hB.size k hk)
  have HR1 : Hid (NodeRow w1.heap.size w2 (.slice va L.length vc) L) := HROW.out.below hb2
  have HB2 := hide hb02
  have hz12 := hb2.size
  clear hown2 hmap hb2 hrow2 hb02 HNO HROW
  go_wp2
  go_loopw [7] (fun iv wr => ∃ k : Nat, iv = .int .i64 (k : Int) ∧ 1 ≤ k ∧ Below w2.heap.size w2 wr) (fun iv _ => L.length - (intOf iv).toNat)
  case atStart => exact ⟨1, rfl, Nat.le_refl _, Below.refl _ _⟩
  case round =>
    obtain ⟨k, rfl, hk1, hbr⟩ := hrel
    by_cases hlt : k < L.length
    · have hkI : (k : Int) < (L.length : Int) := by omega
      obtain ⟨n, hn⟩ : ∃ n, L[k]? = some n := ⟨_, List.getElem?_eq_getElem hlt⟩
      obtain ⟨a, ha, hak, _⟩ := HT.out.up k n hn (by omega)
      have hq1 := IG wr hbr k (.inl hlt)
      have HUP : Hid (ignD L a = true → ignD L k = true) := fun h => ign_up hn ha hak h
      go_wp2_with fail
      refine (unhide hq1).mono ?_
      rintro e w3 ⟨rfl, hb3⟩
      have hbr3 := hbr.trans (hb3.mono hbr.size)
      obtain ⟨g', _, _, _, hge, hgl, _, ⟨_, _, n2, _, _, _, _⟩, _⟩ := (HR1.out.below (hbr3.mono hz12)).at hn
      cases hge
      rw [ha] at n2
      have hq2 := IG w3 hbr3 a (.inl (by omega))
      have HB3 := hide hbr3
      have hz3 := hbr3.size
      clear hb3 hbr3 hq1 hn ha
      go_wp2_with fail
      refine (unhide hq2).mono ?_
      rintro e w4 ⟨rfl, hb4⟩
      have HB4 := hide (HB3.out.trans (hb4.mono hz3))
      clear hb4 hq2 n2
      cases hu : ignD L a with
      | false =>
        go_wp2
        go_roundw
        case rel => exact ⟨k + 1, by go_num, by omega, HB4.out⟩
        case measure => simp [intOf]; omega
      | true =>
        have hx := HUP.out hu
        rw [hx]
        go_wp2
        go_roundw
        case rel => exact ⟨k + 1, by go_num, by omega, HB4.out⟩
        case measure => simp [intOf]; omega
    · have hkI : ¬ ((k : Int) < (L.length : Int)) := by omega
      have hr0 : ignD L 0 = false := ign_root HT.out
      have hq0 := IG wr hbr 0 (by
        by_cases h0 : L = []
        · exact .inr ⟨h0, rfl⟩
        · exact .inl (List.length_pos_iff.2 h0))
      have hq0 : Calls Tryz.prog 6 #[.slice ga L.length gc, .int .i64 0] wr fun e W' => e = .returned (.bool false) ∧ Below wr.heap.size wr W' := by
        rw [hr0] at hq0
        exact hq0
      have hbw : Below w.heap.size w wr := HB2.out.trans (hbr.mono hz2)
      have HBW := hide hbw
      clear IG hbr hr0 HB2 HR1
      go_wp2_with fail
      refine hq0.mono ?_
      rintro e w3 ⟨rfl, hb3⟩
      have hb03 := HBW.out.trans (hb3.mono HBW.out.size)
      have HB3 := hide hb03
      have hLO := Tre.refload_any ownS w3 (by decide)
      clear hb3 hb03 hq0 hbw
      go_wp2_with fail
      refine hLO.mono ?_
      rintro e w4 ⟨v4, lk4, rfl, hown4, hsrt4, hb4⟩
      rw [own_load] at hsrt4
      have hLe := hsrt4.uniq own_srt
      have hrow4 := hown4.row
      rw [hLe] at hrow4
      obtain ⟨va4, vc4, rfl⟩ := hrow4.form
      have hTo : TOK ownR := tok_load (s := ownS) (by rw [own_load]; exact own_srt)
      have hb04 := HB3.out.trans (hb4.mono HB3.out.size)
      have HB4 := hide hb04
      have HT4 := hide hTo
      have NO : ∀ W, Below w4.heap.size w4 W → Hid (Calls Tryz.prog 5 #[.slice va4 ownR.length vc4] W fun e w' => ∃ v' l, e = .returned v' ∧ Tre.Owned 38 W.heap.size w' v' l ∧ l.map (·.1) = ownR ∧ Below W.heap.size W w') := fun W hB => hide (Tre.nodes_any w4.heap.size _ ownR W hTo.len (fun i n h => (hTo.kids i n h).1) (hrow4.below hB) hB.size)
      have IGo : ∀ (W0 W : World) (v' : Value) (l : List (NodeD × Value)), Below w.heap.size w W0 → W.heap.size ≥ W0.heap.size → Below W0.heap.size W0 W → Tre.Owned 38 W0.heap.size W v' l → l.map (·.1) = ownR → ∃ ga gc, v' = .slice ga ownR.length gc ∧ ∀ k : Nat, k < 4 → Calls Tryz.prog 6 #[.slice ga ownR.length gc, .int .i64 (k : Int)] W fun e W' => e = .returned (.bool (ignD ownR k)) ∧ Below W.heap.size W W' := by
        intro W0 W v' l h0 _ h1 ho hm
        have hr := ho.row
        rw [hm] at hr
        obtain ⟨ga, gc, rfl⟩ := hr.form
        have hB0 : Below w.heap.size w W := h0.trans (h1.mono h0.size)
        exact ⟨ga, gc, rfl, fun k hk => igs_any a6 a2 a4 W.heap.size ga gc ownR HT4.out W (HG.out.below hB0) (snUp (HS.out.below hB0 (by omega)) hB0.size) (by have := hB0.size; omega) hr (Nat.le_refl _) k (.inl hk)⟩
      have hno1 := NO w4 (Below.refl _ _)
      clear hown4 hsrt4 hb4 hb04 hrow4 hTo hLO
      go_wp2_with fail
      refine (unhide hno1).mono ?_
      rintro e w5 ⟨v5, l5, rfl, hown5, hm5, hb5⟩
      obtain ⟨ga5, gc5, rfl, hI5⟩ := IGo w4 w5 v5 l5 HB4.out hb5.size hb5 hown5 hm5
      have hI5 := hI5 2 (by decide)
      rw [own_ign2] at hI5
      have HB5 := hide hb5
      clear hown5 hm5 hb5 hno1
      go_wp2_with fail
      refine Calls.mono hI5 ?_
      rintro e w6 ⟨rfl, hb6⟩
      have hb46 := HB5.out.trans (hb6.mono HB5.out.size)
      have hno2 := NO w6 hb46
      have hb06 := HB4.out.trans (hb46.mono HB4.out.size)
      have HB6 := hide hb06
      clear hb6 hI5 hb46 hb06 NO
      go_wp2_with fail
      refine (unhide hno2).mono ?_
      rintro e w7 ⟨v7, l7, rfl, hown7, hm7, hb7⟩
      obtain ⟨ga7, gc7, rfl, hI7⟩ := IGo w6 w7 v7 l7 HB6.out hb7.size hb7 hown7 hm7
      have hI7 := hI7 3 (by decide)
      rw [own_ign3] at hI7
      have HB7 := hide (HB6.out.trans (hb7.mono HB6.out.size))
      clear hown7 hm7 hb7 hno2 IGo
      go_wp2_with fail
      refine Calls.mono hI7 ?_
      rintro e w8 ⟨rfl, hb8⟩
      have HB8 := hide (HB7.out.trans (hb8.mono HB7.out.size))
      clear hb8 hI7
      go_wp2
      go_ret
      exact ⟨rfl, HB8.out⟩
end Go.Proofs.YtjbdoeoimodhkaaGreatDoor
