/- slices.Repeat of one Expr. -/
import Derived.Test.YtdlljlmgoiobpaaGreatDoorEL
import Derived.Test.YtdlljlmgoiobpaaGreatDoorErO
namespace Go.Proofs.YtdlljlmgoiobpaaGreatDoor
open Go.RowKit Go.Maps
def repL (cs : List Value) (k : Nat) : List Value := (List.replicate k cs).flatten
theorem repL_len {cs : List Value} (h : cs.length = 3) (k : Nat) : (repL cs k).length = k * 3 := by
  induction k with
  | zero => rfl
  | succ k ih => unfold repL at ih ⊢; rw [List.replicate_succ, List.flatten_cons, List.length_append, ih, h]; omega
theorem repL_add (cs : List Value) (j m : Nat) : repL cs (j + m) = repL cs j ++ repL cs m := by
  unfold repL; rw [← List.flatten_append, List.replicate_append_replicate]
theorem add_zero_at (g i : Nat) : ((⟨g, 0, none⟩ : Addr).add i) = ⟨g, i, none⟩ := by
  simp [Addr.add]
  intro h; exact h.symm
/-- So many stand in the row. -/
def RBk (cs : List Value) (W : World) (g k j : Nat) : Prop := ∃ rest : List Value, W.heap[g]? = some (.cells (repL cs j ++ rest).toArray 24 (0, 0)) ∧ rest.length = (k - j) * 3
theorem RBk.cell {cs : List Value} {W : World} {g k j i : Nat} {v : Value} (h : RBk cs W g k j) (hv : (repL cs j)[i]? = some v) : W.cell? ⟨g, i, none⟩ = some v := by
  obtain ⟨rest, hg, _⟩ := h
  rw [cell_of_row _ _ _ _ _ _ hg, List.getElem?_toArray, List.getElem?_append_left (List.getElem?_eq_some_iff.1 hv).1]
  exact hv
theorem repL_one {cs : List Value} (h1 : ∀ v ∈ cs, v.oneCell' = true) (k : Nat) : ∀ v ∈ repL cs k, v.oneCell' = true := by
  intro v hv
  unfold repL at hv
  rw [List.mem_flatten] at hv
  obtain ⟨l, hl, hv⟩ := hv
  exact h1 v ((List.eq_of_mem_replicate hl) ▸ hv)
theorem repL_pre (cs : List Value) {j m : Nat} (h : m ≤ j) : ∃ r, repL cs j = repL cs m ++ r := ⟨repL cs (j - m), by rw [← repL_add]; congr 1; omega⟩
theorem run_copy_m {P : Program} (w : World) (dT sT ty elem : TypeId) (z : Nat) (g o dLen dCap : Nat) (a : Addr) (sLen sCap : Nat) (cur : Array Value) (t : TypeId) (cs : List Value) (m : Nat) (hm : Nat.min sLen dLen = m)
    (hu : P.underlying dT = some (.slice elem)) (hs : (P.info? elem).map (·.size) = some z)
    (hg : w.heap[g]? = some (.cells cur t (0, 0))) (hn : cs.length = m * z)
    (hsrc : ∀ j v, cs[j]? = some v → w.cell? (a.add j) = some v) (hfit : o + cs.length ≤ cur.size) (h1 : ∀ v ∈ cs, v.oneCell' = true) :
    (Builtin.copy_ #[dT, sT] ty #[.slice (some ⟨g, o, none⟩) dLen dCap, .slice (some a) sLen sCap]).run P w =
      .ok (goInt m) (w.setRow g (cur.toList.take o ++ cs ++ cur.toList.drop (o + cs.length)).toArray) := by
  subst hm
  exact run_copy_wide w dT sT ty elem z g o dLen dCap a sLen sCap cur t cs hu hs hg hn hsrc hfit h1
set_option maxRecDepth 100000 in
/-- A copy that goes on with the row. -/
theorem copy_on {cs : List Value} (hl : cs.length = 3) (h1 : ∀ v ∈ cs, v.oneCell' = true) {W : World} {g k j m : Nat} (h : RBk cs W g k j) (hj : j ≤ k) (a : Addr) (sLen sCap dCap : Nat) (hm : Nat.min sLen (k - j) = m) (hsrc : ∀ i v, (repL cs m)[i]? = some v → W.cell? (a.add i) = some v) :
    ∃ W', (Builtin.copy_ #[22, 22] 3 #[.slice (some ⟨g, j * 3, none⟩) (k - j) dCap, .slice (some a) sLen sCap]).run Tryz.prog W = .ok (.int .i64 (m : Int)) W' ∧ RBk cs W' g k (j + m) ∧ W.grownBy W' (some g) := by
  obtain ⟨rest, hg, hr⟩ := h
  have hmk : m ≤ k - j := by rw [← hm]; exact Nat.min_le_right _ _
  have hinf : (Tryz.prog.info? 24).map (·.size) = some 3 := by kernel_rfl
  have hlm := repL_len hl m
  have hlj := repL_len hl j
  have hrun := run_copy_m (P := Tryz.prog) W 22 22 3 24 3 g (j * 3) (k - j) dCap a sLen sCap _ 24 (repL cs m) m hm Tryz.underlying22' hinf hg hlm hsrc (by rw [List.size_toArray, List.length_append, hlj, hr, hlm]; omega) (repL_one h1 m)
  have hX : ((repL cs j ++ rest).toArray.toList.take (j * 3) ++ repL cs m ++ (repL cs j ++ rest).toArray.toList.drop (j * 3 + (repL cs m).length)) = repL cs (j + m) ++ rest.drop (m * 3) := by
    have e1 : (repL cs j ++ rest).take (j * 3) = repL cs j := by rw [← hlj]; exact List.take_left
    have e2 : (repL cs j ++ rest).drop (j * 3 + (repL cs m).length) = rest.drop (m * 3) := by
      rw [hlm, List.drop_append, List.drop_eq_nil_of_le (by omega), List.nil_append, hlj]
      congr 1
      omega
    show (repL cs j ++ rest).take (j * 3) ++ repL cs m ++ (repL cs j ++ rest).drop (j * 3 + (repL cs m).length) = _
    rw [e1, e2, repL_add]
  rw [hX] at hrun
  exact ⟨W.setRow g (repL cs (j + m) ++ rest.drop (m * 3)).toArray, hrun, ⟨rest.drop (m * 3), row_blk hg _, by rw [List.length_drop, hr]; omega⟩, row_grown _ _ _⟩
set_option maxRecDepth 100000 in
set_option maxHeartbeats 2000000 in
theorem srep_any (gx : Nat) (cs : List Value) (hl : cs.length = 3) (h1 : ∀ v ∈ cs, v.oneCell' = true) (k : Nat) (hk : k ≤ 1000) (w : World) (hgx : gx < w.heap.size) (hx : ∀ j v, cs[j]? = some v → w.cell? ⟨gx, j, none⟩ = some v) :
    Calls Tryz.prog 64 #[.slice (some ⟨gx, 0, none⟩) 1 1, .int .i64 (k : Int)] w fun e w' => e = .returned (.slice (some ⟨w.heap.size, 0, none⟩) k k) ∧ w'.ownsRow w.heap.size 24 3 (.slice (some ⟨w.heap.size, 0, none⟩) k k) k (repL cs k) ∧ Below w.heap.size w w' := by
  have hmul := Tryz.bits_Mul 1 k (by decide) (by omega)
  rw [Nat.one_mul, Nat.div_eq_of_lt (by omega), Nat.mod_eq_of_lt (by omega)] at hmul
  have hmul' : ∀ w, Calls Tryz.prog 76 #[.int .u64 1, .int .u64 (k : Int)] w fun e w' => e = .returned (.tuple #[.int .u64 0, .int .u64 (k : Int)]) ∧ w' = w := hmul
  have hw1 : IntKind.u64.wrap (k : Int) = (k : Int) := by rw [IntKind.wrap_u64]; omega
  have hw2 : IntKind.i64.wrap (k : Int) = (k : Int) := by rw [IntKind.wrap_i64]; omega
  have hkn : ¬ ((k : Int) < 0) := by omega
  have hkm : ¬ ((9223372036854775807 : Int) < (k : Int)) := by omega
  obtain ⟨i0, hi0, z0, z1, z2⟩ := info_parts Tryz.info24
  obtain ⟨W1, hmk, hown1, hgr1⟩ := run_makeSlice_full (P := Tryz.prog) (w := w) w.heap.size 22 24 i0 _ 3 Tryz.underlying22' hi0 z0 z1 .i64 .i64 k (by omega) (by rw [z2]; omega) (by unfold maxLen; omega) (Nat.le_refl _)
  have hR0 : RBk cs W1 w.heap.size k 0 := by
    rcases hown1.2 with ⟨e, _⟩ | ⟨g', c', cur, e, hb, hg, _, _, hsz, _⟩
    · cases e
    · cases e
      exact ⟨cur.toList, by rw [show repL cs 0 = [] from rfl, List.nil_append, Array.toArray_toList]; exact hg, by rw [Array.length_toList, hsz, Nat.sub_zero]⟩
  have hb1 : Below w.heap.size w W1 := ⟨hgr1.os, hgr1.tape, hgr1.output, hgr1.size, fun k hk => hgr1.block k hk (by simp)⟩
  obtain ⟨m0, hm0⟩ : ∃ m0, Nat.min 1 (k - 0) = m0 := ⟨_, rfl⟩
  have hm0' : m0 ≤ k ∧ (1 ≤ m0 ∨ k = 0) ∧ m0 ≤ 1 := by
    have h1 := Nat.min_le_right 1 (k - 0)
    have h2 := Nat.min_le_left 1 (k - 0)
    have h3 : Nat.min 1 (k - 0) = 1 ∨ Nat.min 1 (k - 0) = k - 0 := by
      rcases Nat.le_total 1 (k - 0) with h | h
      · exact .inl (Nat.min_eq_left h)
      · exact .inr (Nat.min_eq_right h)
    have h1' : m0 ≤ k - 0 := hm0 ▸ h1
    have h2' : m0 ≤ 1 := hm0 ▸ h2
    have h3' : m0 = 1 ∨ m0 = k - 0 := hm0 ▸ h3
    omega
  obtain ⟨W2, hcp, hR2, hgr2⟩ := copy_on hl h1 hR0 (Nat.zero_le _) ⟨gx, 0, none⟩ 1 1 k hm0 (fun i v hv => by
    have hm1 : m0 = 0 ∨ m0 = 1 := by omega
    rcases hm1 with rfl | rfl
    · cases hv
    · have hv' : cs[i]? = some v := by rw [show repL cs 1 = cs by simp [repL]] at hv; exact hv
      have := hx i v hv'
      rw [add_zero_at]
      rw [hb1.cell (p := ⟨gx, i, none⟩) hgx]
      exact this)
  rw [Nat.zero_mul, Nat.sub_zero] at hcp
  rw [Nat.zero_add] at hR2
  have hb2 : Below w.heap.size w W2 := hb1.grown hgr2 hb1.size (fun k e => by cases e; exact Nat.le_refl _)
  have HO := hide (⟨hR2, hb2, hm0'⟩ : _ ∧ _ ∧ _)
  clear hown1 hgr1 hmul hR0 hb1 hm0 hR2 hb2 hgr2 hm0'
  go_enter Tryz.func64, Tryz.ntmps64
  go_wp2_with (go_at_call 76; refine (hmul' _).mono ?_; rintro e w2 ⟨rfl, hw⟩; rw [hw]; clear hw)
  go_loopw [8] (fun nv wr => ∃ j : Nat, nv = .int .i64 (j : Int) ∧ j ≤ k ∧ (1 ≤ j ∨ k = 0) ∧ RBk cs wr w.heap.size k j ∧ Below w.heap.size w wr) (fun nv _ => k - (intOf nv).toNat)
  case atStart => exact ⟨m0, rfl, HO.out.2.2.1, HO.out.2.2.2.1, HO.out.1, HO.out.2.1⟩
  case round =>
    obtain ⟨j, rfl, hj, hj1, hR, hb⟩ := hrel
    by_cases hlt : j < k
    · have hjI : (j : Int) < (k : Int) := by omega
      obtain ⟨m, hm⟩ : ∃ m, Nat.min j (k - j) = m := ⟨_, rfl⟩
      have hmj : m ≤ j := hm ▸ Nat.min_le_left j (k - j)
      have hmk : m ≤ k - j := hm ▸ Nat.min_le_right j (k - j)
      have hm1 : 1 ≤ m := by
        have : Nat.min j (k - j) = j ∨ Nat.min j (k - j) = k - j := by
          rcases Nat.le_total j (k - j) with h | h
          · exact .inl (Nat.min_eq_left h)
          · exact .inr (Nat.min_eq_right h)
        have h3 : m = j ∨ m = k - j := hm ▸ this
        omega
      have hRd : RBk cs wr.drew w.heap.size k j := hR
      obtain ⟨W3, hcp3, hR3, hgr3⟩ := copy_on hl h1 hRd hj ⟨w.heap.size, 0, none⟩ j k (k - j) hm (fun i v hv => by
        rw [add_zero_at]
        obtain ⟨r, hr⟩ := repL_pre cs hmj
        exact hRd.cell (by rw [hr, List.getElem?_append_left (List.getElem?_eq_some_iff.1 hv).1]; exact hv))
      have hbd : Below w.heap.size w wr.drew := ⟨hb.os, hb.tape, hb.output, hb.size, hb.block⟩
      have hb3 : Below w.heap.size w W3 := hbd.grown hgr3 hbd.size (fun k e => by cases e; exact Nat.le_refl _)
      have HB := hide (⟨hR3, hb3⟩ : _ ∧ _)
      clear hR hb hRd hgr3 hbd hR3 hb3 hm
      go_wp2
      go_region
      all_goals go_wp2
      all_goals go_roundw
      case rel => exact ⟨j + m, by simp, by omega, by omega, HB.out.1, HB.out.2⟩
      case measure => simp [intOf]; omega
    · have hje : j = k := by omega
      subst hje
      have hjI : ¬ ((j : Int) < (j : Int)) := by omega
      have HB := hide (⟨hR, hb⟩ : _ ∧ _)
      clear hR hb
      go_wp2
      go_ret
      obtain ⟨⟨rest, hg, hr⟩, hb⟩ := HB.out
      have hrn : rest = [] := List.eq_nil_of_length_eq_zero (by rw [hr, Nat.sub_self, Nat.zero_mul])
      subst hrn
      rw [List.append_nil] at hg
      refine ⟨rfl, ⟨repL_len hl j, .inr ⟨_, _, _, rfl, Nat.le_refl _, hg, Nat.le_refl _, by unfold maxLen; omega, by rw [List.size_toArray, repL_len hl], ?_⟩⟩, hb⟩
      rw [List.toList_toArray, ← repL_len hl j, List.take_length]
end Go.Proofs.YtdlljlmgoiobpaaGreatDoor
