/- The document's step, ends. -/
import Derived.Test.YtiekhoehkgmbjaaDoorARefC
namespace Go.Proofs.YtiekhoehkgmbjaaDoor
open Go.RowKit Go.Maps

/-- Where a byte leads to, from the first of some states. -/
def StepTo (A : List RSt) (c : UInt8) (l : List Nat) (y : Nat) : Prop := ∃ x ∈ l, ∃ st, A[x]? = some st ∧ c ∈ st.set ∧ y = st.to
theorem stepTo_snoc {A : List RSt} {c : UInt8} {l : List Nat} {x y : Nat} : StepTo A c (l ++ [x]) y ↔ StepTo A c l y ∨ ∃ st, A[x]? = some st ∧ c ∈ st.set ∧ y = st.to := by
  constructor
  · rintro ⟨z, hz, h⟩
    rcases List.mem_append.1 hz with hz | hz
    · exact .inl ⟨z, hz, h⟩
    · rw [List.mem_singleton] at hz; subst hz; exact .inr h
  · rintro (⟨z, hz, h⟩ | h)
    · exact ⟨z, by simp [hz], h⟩
    · exact ⟨x, by simp, h⟩
theorem lrow_cell {n₀ : Nat} {W : World} {v : Value} {l : List Nat} (h : LRow n₀ W v l) {i : Nat} (hi : i < l.length) : ∃ g c, g < n₀ ∧ v = .slice (some ⟨g, 0, none⟩) l.length c ∧ W.cell? ⟨g, i, none⟩ = some (.int .i64 ((l[i] : Nat) : Int)) := by
  rcases h with ⟨_, e⟩ | ⟨g, c, h1, h2, _, h3⟩
  · subst e; cases hi
  · exact ⟨g, c, h1, h2, h3 i hi⟩
theorem lrow_shape {n₀ : Nat} {W : World} {v : Value} {l : List Nat} (h : LRow n₀ W v l) : ∃ a c, v = .slice a l.length c := by
  rcases h with ⟨e, e2⟩ | ⟨g, c, _, h2, _⟩
  · subst e2; exact ⟨_, _, e⟩
  · exact ⟨_, _, h2⟩
set_option maxRecDepth 100000 in
set_option maxHeartbeats 4000000 in
theorem rstep_any (n₀ a : Nat) (A : List RSt) (lv : Value) (l : List Nat) (c : UInt8) (w : World) (hR : RRead n₀ w a A) (hW : Wf A) (hl : LRow w.heap.size w lv l) (hl0 : ∀ x ∈ l, x < A.length) (hll : l.length ≤ A.length) (hsz : epsT A + 2 * A.length ≤ 100000000) (hn : n₀ ≤ w.heap.size) :
    Calls Tryd.prog 24 #[.pointer (some ⟨a, 0, none⟩), lv, .int .u8 (c.toNat : Int)] w fun e w' => ∃ v out l2, e = .returned v ∧ (∀ y, y ∈ l2 ↔ StepTo A c l y) ∧ ClosedL A l2 out ∧ w'.ownsRow w.heap.size 3 1 v out.length (nats out) ∧ Below w.heap.size w w' := by
  obtain ⟨la, lc, rfl⟩ := lrow_shape hl
  go_enter Tryd.func24, Tryd.ntmps24
  go_wp2
  go_loopw [7, 8] (fun ov iv wr => ∃ (i : Nat) (out : List Nat), iv = .int .i64 (i : Int) ∧ i ≤ l.length ∧ wr.ownsRow w.heap.size 3 1 ov out.length (nats out) ∧ Asc out ∧ (∀ y ∈ out, y < A.length) ∧ (∀ y, y ∈ out ↔ StepTo A c (l.take i) y) ∧ Below w.heap.size w wr) (fun _ iv _ => l.length - (intOf iv).toNat)
  case atStart => exact ⟨0, [], rfl, Nat.zero_le _, ⟨rfl, .inl ⟨rfl, rfl⟩⟩, List.Pairwise.nil, fun y hy => (by cases hy), fun y => ⟨fun h => (by cases h), fun h => (by obtain ⟨x, hx, _⟩ := h; simp at hx)⟩, Below.refl _ _⟩
  case round =>
    obtain ⟨i, out, rfl, hi, ho, hasc, hlt, hout, hb⟩ := hrel
    have hB := hb.size
    have hol : out.length ≤ 100000000 := by have := asc_len hasc hlt; omega
    by_cases hil : i < l.length
    · have hiI : (i : Int) < (l.length : Int) := by omega
      have hlr := hl.below hb
      obtain ⟨gl, cl, hgl, e, hcl⟩ := lrow_cell hlr hil
      simp only [Value.slice.injEq] at e
      obtain ⟨rfl, _, rfl⟩ := e
      have hxA := hl0 l[i] (List.getElem_mem hil)
      have hRr := hR.below (hb.mono hn)
      obtain ⟨gs, cs, hgs, hgs2, hgs3⟩ := hRr.ss
      obtain ⟨gt, ct, hgt, hgt2, hgt3⟩ := hRr.ts
      have hst : A[l[i]]? = some A[l[i]] := List.getElem?_eq_getElem hxA
      obtain ⟨t, ht1, ht2, ht3⟩ := hgs3 _ _ hst
      have ht4 := hgt3 _ _ hst
      have hxI : ((l[i] : Nat) : Int) < (A.length : Int) := by omega
      have hwf := (hW _ (List.getElem_mem hxA)).1
      have hhas : hasB t c = decide (c ∈ A[l[i]].set) := by unfold hasB; rw [ht1]
      have e1 : l.take (i + 1) = l.take i ++ [l[i]] := by rw [List.take_add_one, List.getElem?_eq_getElem hil]; rfl
      have HNEW : Hid (∀ y, StepTo A c (l.take (i + 1)) y ↔ StepTo A c (l.take i) y ∨ (c ∈ A[l[i]].set ∧ y = A[l[i]].to)) := fun y => by
        rw [e1, stepTo_snoc]
        refine or_congr Iff.rfl ⟨?_, ?_⟩
        · rintro ⟨st, h1, h2, h3⟩
          rw [hst] at h1
          cases h1
          exact ⟨h2, h3⟩
        · rintro ⟨h2, h3⟩
          exact ⟨_, hst, h2, h3⟩
      obtain ⟨x, hx⟩ : ∃ x, l[i] = x := ⟨_, rfl⟩
      obtain ⟨z, hz⟩ : ∃ z, (A[l[i]]'hxA).to = z := ⟨_, rfl⟩
      obtain ⟨S, hS⟩ : ∃ S, (A[l[i]]'hxA).set = S := ⟨_, rfl⟩
      rw [hz] at ht4 hwf HNEW
      rw [hS] at hhas HNEW
      rw [hx] at hcl ht3 ht4 hxI
      obtain ⟨oa, oc, rfl, hoc⟩ := own_shape ho
      clear hst hgs3 hgt3 hS hz e1
      have HH : ∀ k, Calls Tryd.prog 42 #[.string t, .int .u8 (c.toNat : Int)] (wr.drewN k) fun e w' => e = .returned (.bool (hasB t c)) ∧ w' = wr.drewN k := fun k => rhas_any t c (wr.drewN k) ht2
      rw [hhas] at HH
      clear hhas ht1
      by_cases hc : c ∈ S
      · rw [decide_eq_true hc] at HH
        go_wp2
        go_quiet ((go_at_call 42; exact Calls.quiet_of_same (HH _)))
        have hwi := with_any w.heap.size (.slice oa out.length oc) out z ((wr.drewN nq).drew) (by exact ho) hasc hol hB
        have HF : Hid (∀ (v' : Value) (w' : World), w'.ownsRow w.heap.size 3 1 v' (insD z out).length (nats (insD z out)) → (wr.drewN nq).drew.grownBy w' (Value.slice oa out.length oc).ownBlock → ∃ (i' : Nat) (out' : List Nat), Value.int .i64 ((i : Int) + 1) = .int .i64 (i' : Int) ∧ i' ≤ l.length ∧ w'.ownsRow w.heap.size 3 1 v' out'.length (nats out') ∧ Asc out' ∧ (∀ y ∈ out', y < A.length) ∧ (∀ y, y ∈ out' ↔ StepTo A c (l.take i') y) ∧ Below w.heap.size w w') := fun v' w' h1 h2 => by
          refine ⟨i + 1, insD z out, by simp, by omega, h1, insD_asc z out hasc, fun y hy => ?_, fun y => ?_, ?_⟩
          · rcases (insD_mem z y out).1 hy with rfl | hy
            · exact hwf
            · exact hlt y hy
          · rw [insD_mem, HNEW.out y, hout y]
            exact ⟨fun h => h.elim (fun e => .inr ⟨hc, e⟩) .inl, fun h => h.elim .inr (fun e => .inl e.2)⟩
          · exact hb.trans ⟨h2.os, h2.tape, h2.output, h2.size, fun k hk => h2.block k (Nat.lt_of_lt_of_le hk hB) (fun e => by have := (own_cells ho e.symm).1; omega)⟩
        go_wp2
        go_region_with (go_at_call 43; refine hwi.mono ?_; rintro e w2 ⟨v2, rfl, hr2, hg2, _, _⟩)
        all_goals go_wp2
        all_goals
          go_roundw
          case rel => exact HF.out _ _ hr2 hg2
          case measure => simp [intOf]; omega
      · rw [decide_eq_false hc] at HH
        go_wp2
        go_quiet ((go_at_call 42; exact Calls.quiet_of_same (HH _)))
        go_wp2
        go_roundw
        case rel =>
          refine ⟨i + 1, out, by simp, by omega, ho, hasc, hlt, fun y => ?_, hb.trans ⟨rfl, rfl, rfl, Nat.le_refl _, fun _ _ => rfl⟩⟩
          rw [HNEW.out y, hout y]
          exact ⟨.inl, fun h => h.resolve_right (fun h => hc h.1)⟩
        case measure => simp [intOf]; omega
    · have hie : i = l.length := by omega
      subst hie
      have hiI : ¬ ((l.length : Int) < (l.length : Int)) := by omega
      rw [List.take_length] at hout
      have hclo := closed_any n₀ a A _ out wr (hR.below (hb.mono hn)) hW (LRow.of_own ho) hlt (by have := asc_len hasc hlt; omega) (Nat.le_trans hn hB)
      go_wp2_with (go_at_call 41; refine hclo.mono ?_; rintro e w2 ⟨v, out2, rfl, hcl2, hown2, hb2⟩)
      go_ret
      refine ⟨v, out2, out, rfl, hout, hcl2, ?_, hb.trans (hb2.mono hB)⟩
      refine ⟨hown2.1, ?_⟩
      rcases hown2.2 with e | ⟨g', c', cur', e, hb', r⟩
      · exact .inl e
      · exact .inr ⟨g', c', cur', e, Nat.le_trans hB hb', r⟩
end Go.Proofs.YtiekhoehkgmbjaaDoor
