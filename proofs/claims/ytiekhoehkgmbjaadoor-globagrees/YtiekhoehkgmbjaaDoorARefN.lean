/- The law's exprs. -/
import Derived.Test.YtiekhoehkgmbjaaDoorARefM
namespace Go.Proofs.YtiekhoehkgmbjaaDoor
open Go.RowKit Go.Maps

theorem Tryd.info28 : (Tryd.prog.info? 28).map (fun i => (i.zero, i.size, i.bytes)) = some (some (.agg #[.int .i64 0, .string ⟨#[]⟩, .slice none 0 0]), 3, 48) := by kernel_rfl
theorem Tryd.underlying26' : Tryd.prog.underlying 26 = some (.slice 28) := by kernel_rfl
def KRow (S : Nat → Prop) (W : World) (xs : List Value) (ks : List ExprD) : Prop := ∀ (j : Nat) (k : ExprD), ks[j]? = some k → ∃ (op : Int) (s : ByteArray) (v : Value) (q : List ExprD), k = .mk op s.data.toList q ∧ s.size ≤ 1000000000 ∧ xs[j * 3]? = some (.int .i64 op) ∧ xs[j * 3 + 1]? = some (.string s) ∧ xs[j * 3 + 2]? = some v ∧ KidsIn S W v q
theorem KRow.keep {S S' : Nat → Prop} {W W' : World} (hS : ∀ k, S k → S' k) (hb : ∀ k, S k → W'.heap[k]? = W.heap[k]?) {xs : List Value} {ks : List ExprD} (h : KRow S W xs ks) : KRow S' W' xs ks := fun j k hj => by
  obtain ⟨op, s, v, q, a, b, c, d, e, f⟩ := h j k hj
  exact ⟨op, s, v, q, a, b, c, d, e, f.keep hS hb⟩
theorem KRow.snoc {S : Nat → Prop} {W : World} {xs : List Value} {ks : List ExprD} (h : KRow S W xs ks) (hl : xs.length = ks.length * 3) {op : Int} {s : ByteArray} {v : Value} {q : List ExprD} (hs : s.size ≤ 1000000000) (hk : KidsIn S W v q) : KRow S W (xs ++ [.int .i64 op, .string s, v]) (ks ++ [.mk op s.data.toList q]) := fun j k hj => by
  have hjl := (List.getElem?_eq_some_iff.1 hj).1
  simp only [List.length_append, List.length_singleton] at hjl
  rcases Nat.lt_or_ge j ks.length with h1 | h1
  · rw [List.getElem?_append_left h1] at hj
    obtain ⟨op', s', v', q', a, b, c, d, e, f⟩ := h j k hj
    exact ⟨op', s', v', q', a, b, by rw [List.getElem?_append_left (by omega)]; exact c, by rw [List.getElem?_append_left (by omega)]; exact d, by rw [List.getElem?_append_left (by omega)]; exact e, f⟩
  · have hje : j = ks.length := by omega
    subst hje
    rw [List.getElem?_append_right (Nat.le_refl _), Nat.sub_self] at hj
    cases hj
    have e0 : ks.length * 3 - xs.length = 0 := by omega
    have e1 : ks.length * 3 + 1 - xs.length = 1 := by omega
    have e2 : ks.length * 3 + 2 - xs.length = 2 := by omega
    exact ⟨op, s, v, q, rfl, hs, by rw [List.getElem?_append_right (by omega), e0]; rfl, by rw [List.getElem?_append_right (by omega), e1]; rfl, by rw [List.getElem?_append_right (by omega), e2]; rfl, hk⟩
theorem own3_cell {B t n g c : Nat} {W : World} {xs : List Value} (h : W.ownsRow B t 3 (.slice (some ⟨g, 0, none⟩) n c) n xs) {i : Nat} {u : Value} (hu : xs[i]? = some u) : W.cell? ⟨g, i, none⟩ = some u := by
  rcases h.2 with ⟨e, _⟩ | ⟨g', c', cur, e, _, hg, _, _, _, hct⟩
  · cases e
  · cases e
    rw [cell_of_row _ _ _ _ _ _ hg]
    rw [← hct, List.getElem?_take] at hu
    split at hu
    · rw [Array.getElem?_toList] at hu
      exact hu
    · cases hu
theorem KRow.kids {S : Nat → Prop} {W : World} {B n : Nat} {v : Value} {xs : List Value} {ks : List ExprD} (h : KRow S W xs ks) (ho : W.ownsRow B 28 3 v n xs) (hn : n = ks.length) (hv : ∀ g, v.ownBlock = some g → S g) : KidsIn S W v ks := by
  subst hn
  rcases ho.2 with ⟨e, h0⟩ | ⟨g, c, cur, rfl, _, _, hc, _⟩
  · exact .inl ⟨e, List.eq_nil_of_length_eq_zero h0⟩
  · refine .inr ⟨g, c, rfl, hc, fun i k hi => ?_⟩
    obtain ⟨op, s, v, q, rfl, hs, c0, c1, c2, hk⟩ := h i k hi
    rcases hk with ⟨rfl, rfl⟩ | ⟨gk, ck, rfl, hck, hkk⟩
    · exact .nil g (i * 3) op s (hv g rfl) (own3_cell ho c0) (own3_cell ho c1) (own3_cell ho c2) hs
    · exact .row g (i * 3) op s gk ck q (hv g rfl) (own3_cell ho c0) (own3_cell ho c1) (own3_cell ho c2) hs hck hkk
theorem own3_shape {W : World} {B t n : Nat} {v : Value} {xs : List Value} (h : W.ownsRow B t 3 v n xs) : ∃ a c, v = .slice a n c := by
  rcases h.2 with ⟨e, h0⟩ | ⟨g, c, cur, e, _⟩
  · exact ⟨_, _, by rw [e, h0]⟩
  · exact ⟨_, _, e⟩
theorem news_at (W : World) (z : Nat) (hz : W.heap.size = z) (x y u : Value) (t : TypeId) : ∀ (j : Nat) (r : Value), [x, y, u][j]? = some r → (W.alloc (.cells #[x, y, u] t)).cell? ((⟨z, 0, none⟩ : Addr).add j) = some r := by
  subst hz
  exact World.news_of_block (cs := #[x, y, u]) (World.alloc_heap_new W _)
set_option maxRecDepth 100000 in
set_option maxHeartbeats 4000000 in
theorem exprs_of {ks : List ExprD} (IH : ∀ k ∈ ks, ExpressOK k) (hlen : ks.length ≤ 100000000) : ExprsOK ks := by
  intro B v w hk hB
  obtain ⟨p, c, rfl⟩ := kids_shape hk
  have HK := hide hk
  clear hk
  go_enter Tryd.func22, Tryd.ntmps22
  go_wp2
  go_loopw [3, 4] (fun mv iv wr => ∃ (i : Nat) (xs : List Value), iv = .int .i64 (i : Int) ∧ i ≤ ks.length ∧ wr.ownsRow w.heap.size 28 3 mv i xs ∧ KRow (fun k => New w wr k ∧ mv.ownBlock ≠ some k) wr xs (ks.take i) ∧ Below w.heap.size w wr) (fun _ iv _ => ks.length - (intOf iv).toNat)
  case atStart => exact ⟨0, [], rfl, Nat.zero_le _, ⟨rfl, .inl ⟨rfl, rfl⟩⟩, fun j k hj => (by simp at hj), Below.refl _ _⟩
  case round =>
    obtain ⟨i, xs, rfl, hi, hown, hrow, hb⟩ := hrel
    by_cases hlt : i < ks.length
    · have hiI : (i : Int) < (ks.length : Int) := by omega
      rcases HK.out with ⟨_, e⟩ | ⟨gk, ck, hpe, hck, hkk⟩
      · rw [e] at hlt; simp at hlt
      obtain ⟨rfl, rfl⟩ : p = some gk ∧ c = ck := by cases hpe; exact ⟨rfl, rfl⟩
      obtain ⟨op, t, kv, q, kp, kc, hke, hkv, k0, k1, k2, hval⟩ := kid_val ((hkk i (ks[i]'(by omega)) (List.getElem?_eq_getElem (by omega))).keep (hb.mono hB))
      subst hkv
      obtain ⟨_, _, e1, e2, hts, hkq⟩ := hval
      cases e1
      have hih := IH (ks[i]'(by omega)) (List.getElem_mem _) B op t q _ wr hke hts hkq (Nat.le_trans hB hb.size)
      have HROW := hide hrow
      have HB := hide hb
      have HOWN := hide hown
      clear hrow hb hown hpe hkq e2
      obtain ⟨i0, hi0, z0, z1, z2⟩ := info_parts Tryd.info28
      obtain ⟨la, lc, rfl⟩ := own3_shape HOWN.out
      go_wp2_with first
        | (go_at_call 10; refine hih.mono ?_; rintro e w2 ⟨v2, rfl, hkin, hb2⟩; obtain ⟨pa, pc, hpv⟩ := kin_shape hkin; subst hpv; have hown2 : w2.ownsRow w.heap.size 28 3 (.slice la i lc) i xs := row_keep HOWN.out (fun k c hk _ => (hb2.block k (Array.getElem?_eq_some_iff.1 hk).1).trans hk))
        | (at_builtin; refine wpList_append_lies _ rfl (.tmp 17) (.tmp 19) 26 rfl w.heap.size 28 i0 _ 3 48 Tryd.underlying26' hi0 z0 z1 z2 rfl (by decide) _ i xs rfl ((hown2.alloc _).alloc _) ⟨w2.heap.size + 1, 0, none⟩ 1 1 [.int .i64 op, .string t, .slice pa q.length pc] rfl rfl (news_at _ _ (by rw [World.size_alloc]) _ _ _ _) (by simp [Value.oneCell']) (by decide) (by unfold maxLen; omega) (by omega) (by rw [World.size_alloc, World.size_alloc]; have := HB.out.size; have := hb2.size; omega) _ rfl ?_; intro g6 c6 w6 hown6 hg6 hat6 _)
      have hxl : xs.length = i * 3 := HOWN.out.1
      have htk : ks.take (i + 1) = ks.take i ++ [.mk op t.data.toList q] := by rw [List.take_succ_eq_append_getElem hlt, hke]
      have hbx : ∀ k, k < w2.heap.size → (Value.slice la i lc).ownBlock ≠ some k → w6.heap[k]? = w2.heap[k]? := fun k hk hne => by
        rw [hg6.block k (by rw [World.size_alloc, World.size_alloc]; omega) (fun e => hne e.symm), Below.heap_alloc _ _ k (by rw [World.size_alloc]; omega), Below.heap_alloc _ _ k hk]
      have hs6 : w2.heap.size + 2 ≤ w6.heap.size := by have := hg6.size; rw [World.size_alloc, World.size_alloc] at this; exact this
      have hbs := HB.out.size
      have hb2s := hb2.size
      have hnb : ∀ k, k < w2.heap.size → (Value.slice la i lc).ownBlock ≠ some k → (Value.slice (some ⟨g6, 0, none⟩) (i + 1) c6).ownBlock ≠ some k := fun k hk hne e => by
        have e' : g6 = k := Option.some.inj e
        rcases hat6 with h | h
        · exact hne (e' ▸ h)
        · rw [World.size_alloc, World.size_alloc] at h
          omega
      have hlo : ∀ k, (Value.slice la i lc).ownBlock = some k → w.heap.size ≤ k ∧ k < wr.heap.size := fun k hk => ⟨(own_cells HOWN.out hk).1, own_lt HOWN.out hk⟩
      have hb6 : Below w.heap.size w w6 := by
        refine HB.out.trans ⟨?_, ?_, ?_, by omega, fun k hk => ?_⟩
        · exact hg6.os.trans hb2.os
        · exact hg6.tape.trans hb2.tape
        · exact hg6.output.trans hb2.output
        · exact (hbx k (by omega) (fun e => by have := (hlo k e).1; omega)).trans (hb2.block k (by omega))
      have hrow6 : KRow (fun k => New w w6 k ∧ (Value.slice (some ⟨g6, 0, none⟩) (i + 1) c6).ownBlock ≠ some k) w6 (xs ++ [.int .i64 op, .string t, .slice pa q.length pc]) (ks.take (i + 1)) := by
        rw [htk]
        refine KRow.snoc (HROW.out.keep (fun k hk => ⟨⟨hk.1.1, by have := hk.1.2; omega⟩, hnb k (by have := hk.1.2; omega) hk.2⟩) (fun k hk => ?_)) (by rw [List.length_take]; omega) hts (hkin.keep (fun k hk => ⟨⟨by have := hk.1; omega, by have := hk.2; omega⟩, hnb k hk.2 (fun e => by have := (hlo k e).2; have := hk.1; omega)⟩) (fun k hk => hbx k hk.2 (fun e => by have := (hlo k e).2; have := hk.1; omega)))
        exact (hbx k (by have := hk.1.2; omega) hk.2).trans (hb2.block k hk.1.2)
      go_roundw
      case rel => exact ⟨i + 1, _, by simp, by omega, hown6, hrow6, hb6⟩
      case measure => simp [intOf]; omega
    · have hie : i = ks.length := by omega
      subst hie
      have hiI : ¬ ((ks.length : Int) < (ks.length : Int)) := by omega
      rw [List.take_length] at hrow
      have hfin : KidsIn (New w wr) wr _ ks := KRow.kids (S := New w wr) (hrow.keep (fun k hk => hk.1) (fun k _ => rfl)) hown rfl (fun g hg => ⟨(own_cells hown hg).1, own_lt hown hg⟩)
      obtain ⟨la, lc, rfl⟩ := kin_shape hfin
      have HF := hide hfin
      clear hrow hfin hown
      go_wp2
      go_ret
      exact ⟨_, rfl, HF.out, hb⟩
end Go.Proofs.YtiekhoehkgmbjaaDoor
