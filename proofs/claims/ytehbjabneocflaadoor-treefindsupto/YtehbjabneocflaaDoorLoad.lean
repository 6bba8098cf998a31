/- The reference's Load, as far as going through a tree asks. -/
import Derived.Test.YtehbjabneocflaaDoorLine
namespace Go.Proofs.YtehbjabneocflaaDoor
open Go.RowKit

theorem wf_nil : WF [] := ⟨fun i n h => by simp at h, fun i n h => by simp at h, fun n h => by simp at h, fun i n h => by simp at h, fun i n h => by simp at h, by simp⟩
def rootD : NodeD := ⟨100, ⟨#[]⟩, -1, 0, 0, ⟨#[]⟩, []⟩
theorem wf_root : WF [rootD] := by
  have one : ∀ (i : Nat) (n : NodeD), [rootD][i]? = some n → i = 0 ∧ n = rootD := by
    intro i n h
    cases i with
    | zero => simp at h; exact ⟨rfl, h.symm⟩
    | succ i => simp at h
  refine ⟨?_, ?_, ?_, ?_, ?_, by simp⟩
  · intro i n h c hc
    obtain ⟨rfl, rfl⟩ := one i n h
    cases hc
  · intro i n h hi
    obtain ⟨rfl, rfl⟩ := one i n h
    omega
  · intro n h
    obtain ⟨_, rfl⟩ := one 0 n h
    rfl
  · intro i n h
    obtain ⟨rfl, rfl⟩ := one i n h
    simp [rootD]
  · intro i n h
    obtain ⟨rfl, rfl⟩ := one i n h
    exact Nat.zero_le _
theorem owned_nil (t B : Nat) (W : World) : Owned t B W (.slice none 0 0) [] := ⟨World.ownsRow_nil _ _ _ _, fun p hp => by cases hp⟩
theorem owned_root (w : World) : Owned 44 w.heap.size (w.alloc (.cells #[.int .u8 100, .string ⟨#[]⟩, .int .i64 (-1), .int .i64 0, .int .i64 0, .string ⟨#[]⟩, .slice none 0 0] 44)) (.slice (some ⟨w.heap.size, 0, none⟩) 1 1) [(rootD, .slice none 0 0)] := by
  refine ⟨⟨rfl, .inr ⟨w.heap.size, 1, _, rfl, Nat.le_refl _, World.alloc_heap_new w _, Nat.le_refl _, by unfold maxLen; omega, rfl, rfl⟩⟩, fun p hp => ?_⟩
  simp at hp
  subst hp
  exact World.ownsRow_nil _ _ _ _
theorem row9_keep {B n : Nat} {w w' : World} {v : Value} {xs : List Value} (h : w.ownsRow B 9 1 v n xs) (hk : Keeps9 w w') : w'.ownsRow B 9 1 v n xs := by
  refine ⟨h.1, ?_⟩
  rcases h.2 with h2 | ⟨g, cap, cur, e, hb, hg, r⟩
  · exact .inl h2
  · exact .inr ⟨g, cap, cur, e, hb, hk g cur hg, r⟩

theorem row_str {B n m cap g : Nat} {W : World} {xs : List ByteArray} (h : W.ownsRow B 9 1 (.slice (some ⟨g, 0, none⟩) m cap) n (xs.map Value.string)) {j : Nat} {x : ByteArray} (hj : xs[j]? = some x) : W.cell? ⟨g, j, none⟩ = some (.string x) := by
  rcases h.2 with ⟨e, _⟩ | ⟨g', cap', cur, e, _, hg, hn, _, hs, ht⟩
  · cases e
  · cases e
    have hj' : j < xs.length := (List.getElem?_eq_some_iff.1 hj).1
    have hl := h.1
    rw [List.length_map] at hl
    have e1 : (cur.toList.take (n * 1))[j]? = some (.string x) := by rw [ht, List.getElem?_map, hj]; rfl
    rw [List.getElem?_take_of_lt (by omega)] at e1
    simp only [World.cell?, hg]
    simpa using e1
def LoadPost (w : World) (e : Ending) (w' : World) : Prop :=
  ∃ (v : Value) (er at_ : Int) (lk : List (NodeD × Value)), e = .returned (.tuple #[v, .int .i64 er, .int .i64 at_]) ∧ Owned 44 w.heap.size w' v lk ∧ WF (lk.map (·.1)) ∧ Below w.heap.size w w'
theorem load_no {w w' : World} {er at_ : Int} (hb : Below w.heap.size w w') : LoadPost w (.returned (.tuple #[.slice none 0 0, .int .i64 er, .int .i64 at_])) w' := ⟨_, er, at_, [], rfl, owned_nil _ _ _, wf_nil, hb⟩

set_option maxRecDepth 100000 in
set_option maxHeartbeats 2000000 in
theorem load_any (s : ByteArray) (w : World) (hs : s.size ≤ 1073741824) :
    Calls Tryd.prog 14 #[.string s] w (LoadPost w) := by
  by_cases hbig : 20000 < s.size
  · have hb' : (20000 : Int) < (s.size : Int) := by omega
    go_enter Tryd.func14, Tryd.ntmps14
    go_wp2
    go_ret3
    exact load_no (Below.refl _ _)
  · have hb' : ¬ (20000 : Int) < (s.size : Int) := by omega
    have hl10 := cutS_length 10 s
    go_enter Tryd.func14, Tryd.ntmps14
    go_wp2_with fail
    have hown0 := owned_root w
    have hbl0 : Below w.heap.size w (w.alloc (.cells #[.int .u8 100, .string ⟨#[]⟩, .int .i64 (-1), .int .i64 0, .int .i64 0, .string ⟨#[]⟩, .slice none 0 0] 44)) := (Below.refl _ _).alloc (Nat.le_refl _) _
    refine (cut_any 10 s _ (by omega)).mono ?_
    rintro e w1 ⟨v1, rfl, hown1, hb1⟩
    have hown0' := hown0.below hb1
    have hB1 : Below w.heap.size w w1 := hbl0.trans (hb1.mono (by simp))
    obtain ⟨g1, cap1, rfl, hg1, hcap1, hx1⟩ := (StrRow.of_owns hown1).more (cutS_ne' 10 s)
    obtain ⟨cs, hcs⟩ : ∃ cs, cs = cutS 10 s := ⟨_, rfl⟩
    have hp10 : ∀ x ∈ cs, x.size ≤ s.size := by rw [hcs]; exact cutS_le 10 s
    have hcl : 1 ≤ cs.length := by
      rw [hcs]
      cases e : cutS 10 s with
      | nil => exact absurd e (cutS_ne' 10 s)
      | cons a b => simp
    rw [← hcs] at hl10 hown1 hcap1 ⊢
    have HP := hide hp10
    have HO1 := hide hown1
    have HO0 := hide hown0'
    clear hown0 hbl0 hb1 hx1 hcs hp10 hown1 hown0'
    go_wp2
    go_loopw [5, 7, 8] (fun lv av iv wr => ∃ (i : Nat) (a : Int) (lk : List (NodeD × Value)), i < cs.length ∧ iv = .int .i64 i ∧ av = .int .i64 a ∧ Owned 44 w.heap.size wr lv lk ∧ WF (lk.map (·.1)) ∧ lk.length = i + 1 ∧ i ≤ 200 ∧ (∃ BB, wr.ownsRow BB 9 1 (.slice (some ⟨g1, 0, none⟩) cs.length cap1) cs.length (cs.map Value.string)) ∧ Below w.heap.size w wr)
      (fun _ _ iv _ => cs.length - (intOf iv).toNat)
    case atStart => exact ⟨0, 0, _, by omega, rfl, rfl, HO0.out, wf_root, rfl, by omega, ⟨_, HO1.out⟩, hB1⟩
    case round =>
      obtain ⟨i, a, lk, hi, rfl, rfl, hown, hwf, hlk, hi2, ⟨BB, hrow⟩, hBr⟩ := hrel
      obtain ⟨y, hy⟩ : ∃ y, cs[i]? = some y := ⟨_, List.getElem?_eq_getElem hi⟩
      have hy2 := (unhide HP) y (List.mem_of_getElem? hy)
      have hcell : wr.cell? ⟨g1, i, none⟩ = some (.string y) := by
        obtain ⟨g', cap', e, _, _, hx⟩ := (StrRow.of_owns hrow).more (by intro e; rw [e] at hcl; simp at hcl)
        cases e
        exact hx i y hy
      have HY := hide hy
      clear hy
      have HOW := hide hown
      have HWF := hide hwf
      have HROW := hide hrow
      clear hown hwf hrow
      by_cases hlast : i = cs.length - 1
      · have hlb : ((i : Int) == (cs.length : Int) - 1) = true := by rw [beq_iff_eq]; omega
        clear hlast
        cases hE : y.toList.isEmpty
        · go_wp2
          go_ret3
          exact load_no hBr
        · go_wp2
          go_ret3
          exact ⟨_, 0, 0, lk, rfl, unhide HOW, unhide HWF, hBr⟩
      · have hlb : ((i : Int) == (cs.length : Int) - 1) = false := by rw [beq_eq_false_iff_ne]; omega
        go_wp2_with fail
        refine (line_any y _ (by omega)).mono ?_
        rintro e w2 ⟨nd, nv, ok, rfl, htx, hnames, hb2⟩
        have hBr2 : Below w.heap.size w w2 := hBr.trans (hb2.mono hBr.size)
        cases ok
        · go_wp2
          go_ret3
          exact load_no (hBr2.alloc hBr2.size _)
        · obtain ⟨names, hn0, hnl, hnrow⟩ := hnames rfl
          clear hnames
          by_cases h200 : (200 : Int) ≤ (i : Int)
          · go_wp2
            go_ret3
            exact load_no (hBr2.alloc hBr2.size _)
          · have HN := hide hnrow
            have HB2 := hide hb2
            clear hnrow hb2
            go_wp2_with fail
            obtain ⟨W3, hW3⟩ : ∃ W3, w2.alloc (.cells #[.int .u8 nd.kind, .string nd.name, .int .i64 nd.up, .int .i64 nd.size, .int .i64 nd.time, .string nd.text, .slice none 0 0] 44) = W3 := ⟨_, rfl⟩
            rw [hW3]
            have hbl3 : Below w2.heap.size w2 W3 := by rw [← hW3]; exact (Below.refl _ _).alloc (Nat.le_refl _) _
            have hs3 := hbl3.size
            have hown3 := ((unhide HOW).below (unhide HB2)).below hbl3
            have hk3 : Keeps9 wr W3 := (Keeps9.of_below (unhide HB2)).trans (Keeps9.of_below hbl3)
            have hB3 : Below w.heap.size w W3 := hBr2.trans (hbl3.mono hBr2.size)
            have hbs := hB3.size
            have HPUT := hide (put_any w.heap.size w2.heap.size _ nv lk nd names W3 hbs hs3 hown3 (unhide HWF) (by omega) (by omega) htx ((unhide HN).below hbl3) (by omega) hn0)
            have HK3 := hide hk3
            have HB3 := hide hB3
            clear hW3 hbl3 hown3 hk3 hB3
            refine (unhide HPUT).mono ?_
            rintro e w4 ⟨v4, er, rfl, hok, hb4, hk4⟩
            have hB4 : Below w.heap.size w w4 := (unhide HB3).trans hb4
            by_cases her : er = 0
            · subst her
              obtain ⟨lk', ho4, hwf4, hl4⟩ := hok rfl
              have hrow4 := row9_keep (unhide HROW) ((unhide HK3).trans hk4)
              have hcell4 : w4.cell? ⟨g1, i, none⟩ = some (.string y) := by
                have h1 := row_str hrow4 (unhide HY)
                exact h1
              have HR4 := hide hrow4
              have HO4 := hide ho4
              have HW4 := hide hwf4
              have HL4 := hide hl4
              clear hok hrow4 ho4 hwf4 hl4 hk4 hb4
              go_wp2
              go_roundw
              case rel => exact ⟨i + 1, _, lk', by omega, by go_num, rfl, unhide HO4, unhide HW4, by rw [HL4.out]; omega, by omega, ⟨BB, unhide HR4⟩, hB4⟩
              case measure => simp [intOf]; omega
            · have heb : (er != 0) = true := by rw [bne_iff_ne]; exact her
              clear hok hk4 hb4
              go_wp2
              go_ret3
              exact load_no hB4
end Go.Proofs.YtehbjabneocflaaDoor
