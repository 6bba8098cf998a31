/- The program's errno and Find. -/
import Derived.Test.YtehbjabneocflaaDoorIs
namespace Go.Proofs.YtehbjabneocflaaDoor
open Go.RowKit

/-- A pointee of the package's errors: a row of its own below C. -/
def Pointee (C : Nat) (W : World) (a : Addr) : Prop := a.block < C ∧ ∃ c t, W.heap[a.block]? = some (.cells c t (0, 0))
/-- The package's six errors, each another one. -/
structure Sent (C : Nat) (a6 a7 a9 a2 a4 a8 : Addr) (W : World) : Prop where
  errs : Errs 122 a6 a7 a9 W
  c2 : W.cell? ⟨2, 0, none⟩ = some (.iface 122 (.pointer (some a2)))
  c3 : W.cell? ⟨3, 0, none⟩ = some (.iface 122 (.pointer (some a4)))
  c4 : W.cell? ⟨4, 0, none⟩ = some (.iface 122 (.pointer (some a8)))
  p6 : Pointee C W a6
  p7 : Pointee C W a7
  p9 : Pointee C W a9
  p2 : Pointee C W a2
  p4 : Pointee C W a4
  p8 : Pointee C W a8
  n62 : a6 ≠ a2
  n64 : a6 ≠ a4
  n72 : a7 ≠ a2
  n74 : a7 ≠ a4
  n76 : a7 ≠ a6
  n92 : a9 ≠ a2
  n94 : a9 ≠ a4
  n96 : a9 ≠ a6
  n97 : a9 ≠ a7
  n98 : a9 ≠ a8
theorem Pointee.grown {C b : Nat} {W W' : World} {a : Addr} (h : Pointee C W a) (hg : W.grownBy W' (some b)) (hb : C ≤ b) : Pointee C W' a := by
  obtain ⟨h1, c, t, h2⟩ := h
  exact ⟨h1, c, t, (hg.block a.block (Array.getElem?_eq_some_iff.1 h2).1 (fun e => by have := Option.some.inj e; omega)).trans h2⟩
theorem Sent.grown {C b : Nat} {a6 a7 a9 a2 a4 a8 : Addr} {W W' : World} (h : Sent C a6 a7 a9 a2 a4 a8 W) (hg : W.grownBy W' (some b)) (hb : C ≤ b) (h6 : 6 < C) : Sent C a6 a7 a9 a2 a4 a8 W' :=
  { h with
    errs := h.errs.grown hg (by omega)
    c2 := hg.cell h.c2 (fun e => by have := Option.some.inj e; simp at this; omega)
    c3 := hg.cell h.c3 (fun e => by have := Option.some.inj e; simp at this; omega)
    c4 := hg.cell h.c4 (fun e => by have := Option.some.inj e; simp at this; omega)
    p6 := h.p6.grown hg hb
    p7 := h.p7.grown hg hb
    p9 := h.p9.grown hg hb
    p2 := h.p2.grown hg hb
    p4 := h.p4.grown hg hb
    p8 := h.p8.grown hg hb }
theorem is_no {C : Nat} {W : World} {a b : Addr} (ha : Pointee C W a) (hb : Pointee C W b) (hne : a ≠ b) : Calls Tryd.prog 46 #[.iface 122 (.pointer (some a)), .iface 122 (.pointer (some b))] W fun e w' => e = .returned (.bool false) ∧ w' = W := by
  obtain ⟨_, ca, ta, ha⟩ := ha
  obtain ⟨_, cb, tb, hb⟩ := hb
  exact is_other a b ca cb ta tb W hne ha hb

set_option maxRecDepth 100000 in
set_option maxHeartbeats 2000000 in
theorem errno6 (C : Nat) (a6 a7 a9 a2 a4 a8 : Addr) (w : World) (h : Sent C a6 a7 a9 a2 a4 a8 w) : Calls Tryd.prog 28 #[.iface 122 (.pointer (some a6))] w fun e w' => e = .returned (.int .i64 6) ∧ w' = w := by
  have c0 := h.errs.1
  have c2 := h.c2
  have c3 := h.c3
  have H1 := hide (is_no h.p6 h.p2 h.n62)
  have H2 := hide (is_no h.p6 h.p4 h.n64)
  have H3 := hide (is_same a6 w)
  clear h
  go_enter Tryd.func28, Tryd.ntmps28
  go_wp2_with fail
  refine (unhide H1).mono ?_
  rintro e ww ⟨rfl, hww⟩
  rw [hww]; clear hww
  go_wp2_with fail
  refine (unhide H2).mono ?_
  rintro e ww ⟨rfl, hww⟩
  rw [hww]; clear hww
  go_wp2_with fail
  refine (unhide H3).mono ?_
  rintro e ww ⟨rfl, hww⟩
  rw [hww]; clear hww
  go_wp2
  go_ret
  exact ⟨rfl, rfl⟩
set_option maxRecDepth 100000 in
set_option maxHeartbeats 2000000 in
theorem errno7 (C : Nat) (a6 a7 a9 a2 a4 a8 : Addr) (w : World) (h : Sent C a6 a7 a9 a2 a4 a8 w) : Calls Tryd.prog 28 #[.iface 122 (.pointer (some a7))] w fun e w' => e = .returned (.int .i64 7) ∧ w' = w := by
  have c0 := h.errs.1
  have c1 := h.errs.2.1
  have c2 := h.c2
  have c3 := h.c3
  have H1 := hide (is_no h.p7 h.p2 h.n72)
  have H2 := hide (is_no h.p7 h.p4 h.n74)
  have H3 := hide (is_no h.p7 h.p6 h.n76)
  have H4 := hide (is_same a7 w)
  clear h
  go_enter Tryd.func28, Tryd.ntmps28
  go_wp2_with fail
  refine (unhide H1).mono ?_
  rintro e ww ⟨rfl, hww⟩
  rw [hww]; clear hww
  go_wp2_with fail
  refine (unhide H2).mono ?_
  rintro e ww ⟨rfl, hww⟩
  rw [hww]; clear hww
  go_wp2_with fail
  refine (unhide H3).mono ?_
  rintro e ww ⟨rfl, hww⟩
  rw [hww]; clear hww
  go_wp2_with fail
  refine (unhide H4).mono ?_
  rintro e ww ⟨rfl, hww⟩
  rw [hww]; clear hww
  go_wp2
  go_ret
  exact ⟨rfl, rfl⟩
set_option maxRecDepth 100000 in
set_option maxHeartbeats 2000000 in
theorem errno9 (C : Nat) (a6 a7 a9 a2 a4 a8 : Addr) (w : World) (h : Sent C a6 a7 a9 a2 a4 a8 w) : Calls Tryd.prog 28 #[.iface 122 (.pointer (some a9))] w fun e w' => e = .returned (.int .i64 9) ∧ w' = w := by
  have c0 := h.errs.1
  have c1 := h.errs.2.1
  have c2 := h.c2
  have c3 := h.c3
  have c4 := h.c4
  have H1 := hide (is_no h.p9 h.p2 h.n92)
  have H2 := hide (is_no h.p9 h.p4 h.n94)
  have H3 := hide (is_no h.p9 h.p6 h.n96)
  have H4 := hide (is_no h.p9 h.p7 h.n97)
  have H5 := hide (is_no h.p9 h.p8 h.n98)
  clear h
  go_enter Tryd.func28, Tryd.ntmps28
  go_wp2_with fail
  refine (unhide H1).mono ?_
  rintro e ww ⟨rfl, hww⟩
  rw [hww]; clear hww
  go_wp2_with fail
  refine (unhide H2).mono ?_
  rintro e ww ⟨rfl, hww⟩
  rw [hww]; clear hww
  go_wp2_with fail
  refine (unhide H3).mono ?_
  rintro e ww ⟨rfl, hww⟩
  rw [hww]; clear hww
  go_wp2_with fail
  refine (unhide H4).mono ?_
  rintro e ww ⟨rfl, hww⟩
  rw [hww]; clear hww
  go_wp2_with fail
  refine (unhide H5).mono ?_
  rintro e ww ⟨rfl, hww⟩
  rw [hww]; clear hww
  go_wp2
  go_ret
  exact ⟨rfl, rfl⟩

/-- An answer: no error; or an error of three, and node 0. -/
def okE (r : FRes) : Prop := r.2.1 = 0 ∨ (r.1 = 0 ∧ (r.2.1 = 6 ∨ r.2.1 = 7 ∨ r.2.1 = 9))
theorem step_err {L : List NodeD} {thr : Nat → ByteArray → Nat → FRes} (ht : ∀ k t l, okE (thr k t l)) (k : Nat) (n : NodeD) (p : ByteArray) (th : Bool) (links : Nat) : okE (stepD L thr k n p th links) := by
  unfold stepD
  by_cases h1 : (p.toList == [46]) = true
  · rw [if_pos h1]; exact .inl rfl
  · rw [if_neg h1]
    by_cases h2 : (p.toList == [46, 46]) = true
    · rw [if_pos h2]; exact .inl rfl
    · rw [if_neg h2]
      by_cases h3 : kidOf L n.kids p = -1
      · rw [if_pos h3]; exact .inr ⟨rfl, .inl rfl⟩
      · rw [if_neg h3]
        cases hm : L[(kidOf L n.kids p).toNat]? with
        | none => exact .inr ⟨rfl, .inl rfl⟩
        | some m =>
          show okE (if (m.kind == 108 && th) = true then _ else _)
          by_cases h4 : (m.kind == 108 && th) = true
          · rw [if_pos h4]
            by_cases h5 : 40 ≤ links
            · rw [if_pos h5]; exact .inr ⟨rfl, .inr (.inr rfl)⟩
            · rw [if_neg h5]; exact ht _ _ _
          · rw [if_neg h4]; exact .inl rfl
theorem go_err {L : List NodeD} {thr : Nat → ByteArray → Nat → FRes} (ht : ∀ k t l, okE (thr k t l)) (last : Bool) : ∀ (ps : List ByteArray) (k links : Nat), okE (goD L thr last ps k links) := by
  intro ps
  induction ps with
  | nil => intro k links; exact .inl rfl
  | cons p ps ih =>
    intro k links
    unfold goD
    cases hn : L[k]? with
    | none => exact .inr ⟨rfl, .inr (.inl rfl)⟩
    | some n =>
      show okE (if dirD n = false then _ else _)
      by_cases hd : dirD n = false
      · rw [if_pos hd]; exact .inr ⟨rfl, .inr (.inl rfl)⟩
      · rw [if_neg hd]
        by_cases he : (stepD L thr k n p (last || !ps.isEmpty) links).2.1 = 0
        · rw [if_pos he]; exact ih _ _
        · rw [if_neg he]
          rcases step_err ht k n p (last || !ps.isEmpty) links with h | ⟨_, h⟩
          · exact absurd h he
          · exact .inr ⟨rfl, h⟩
theorem find_err (L : List NodeD) : ∀ (F k : Nat) (s : ByteArray) (fo : Bool) (links : Nat), okE (findD L F k s fo links) := by
  intro F
  induction F with
  | zero => intro k s fo links; exact .inr ⟨rfl, .inr (.inr rfl)⟩
  | succ F ih =>
    intro k s fo links
    unfold findD
    cases he : s.toList.isEmpty
    · rw [if_neg (by simp)]
      have hg := go_err (L := L) (fun k t l => ih k t true l) (fo || endsSlash s) (partsS s) (startAt s k) links
      unfold endD
      by_cases h0 : (goD L (fun k t l => findD L F k t true l) (fo || endsSlash s) (partsS s) (startAt s k) links).2.1 = 0
      · rw [if_pos h0]
        cases hn : L[(goD L (fun k t l => findD L F k t true l) (fo || endsSlash s) (partsS s) (startAt s k) links).1]? with
        | none => exact hg
        | some n =>
          show okE (if (endsSlash s && !dirD n) = true then _ else _)
          by_cases h2 : (endsSlash s && !dirD n) = true
          · rw [if_pos h2]; exact .inr ⟨rfl, .inr (.inl rfl)⟩
          · rw [if_neg h2]; exact hg
      · rw [if_neg h0]; exact hg
    · rw [if_pos rfl]; exact .inr ⟨rfl, .inl rfl⟩

set_option maxRecDepth 100000 in
set_option maxHeartbeats 2000000 in
theorem cfind_empty (T : Nat) (a6 a7 a9 : Addr) (L : List NodeD) (v : Value) (C b F : Nat) (k : Nat) (s : ByteArray) (fo : Bool) (links : Nat) (w : World) (hk : k < L.length) (hrow : NodeRow C w v L) (hfb : FB 57 w b v links) (herr : Errs T a6 a7 a9 w) (he : s.toList.isEmpty = true) :
    Calls Tryd.prog 27 #[.pointer (some ⟨b, 0, none⟩), .int .i64 (k : Int), .string s, .bool fo] w (CPost T a6 a7 a9 v b (findD L (F + 1) k s fo links) w) := by
  have HS : Hid (findD L (F + 1) k s fo links = (0, 6, links)) := by unfold Hid findD; rw [he]; rfl
  obtain ⟨a, cap, rfl⟩ := hrow.form
  have HFB := hide hfb
  have c0 := hfb.c0
  have e0 := herr.1
  have HN := hide (hasNode_yes a L.length cap (k : Int) w (by omega) (by omega))
  clear hfb hrow herr
  go_enter Tryd.func27, Tryd.ntmps27
  go_wp2_with fail
  refine (unhide HN).mono ?_
  rintro e ww ⟨rfl, hww⟩
  rw [hww]; clear hww
  go_wp2
  go_quiet (fail)
  go_wp2
  go_ret2
  exact c_mk (x := 0) (y := 6) HS.out (by omega) (show FB 57 (World.drewN _ nq) _ _ _ from unhide HFB) (grown_of_below (below_drewN (Below.refl _ _) nq))
theorem cfind_any (T : Nat) (a6 a7 a9 : Addr) (L : List NodeD) (v : Value) (C b : Nat) (h6 : 6 < C) (hC : C ≤ b) (hwf : WF L) : ∀ F, CFindOK T a6 a7 a9 L v C b F := by
  intro F
  induction F with
  | zero => intro k s fo links w hk hs hl hF; omega
  | succ F IH =>
    intro k s fo links w hk hs hl hF hrow hfb herr
    cases he : s.toList.isEmpty
    · have h1 := emp_size_no he
      by_cases hc : (s[0].toNat : Int) = 47
      · cases fo
        · cases hd : endsSlash s
          · exact cfind_ffs T a6 a7 a9 L v C b F h6 hC hwf IH k s links w hk hs hl hF hrow hfb herr h1 hd hc
          · exact cfind_fts T a6 a7 a9 L v C b F h6 hC hwf IH k s links w hk hs hl hF hrow hfb herr h1 hd hc
        · cases hd : endsSlash s
          · exact cfind_tfs T a6 a7 a9 L v C b F h6 hC hwf IH k s links w hk hs hl hF hrow hfb herr h1 hd hc
          · exact cfind_tts T a6 a7 a9 L v C b F h6 hC hwf IH k s links w hk hs hl hF hrow hfb herr h1 hd hc
      · cases fo
        · cases hd : endsSlash s
          · exact cfind_ffn T a6 a7 a9 L v C b F h6 hC hwf IH k s links w hk hs hl hF hrow hfb herr h1 hd hc
          · exact cfind_ftn T a6 a7 a9 L v C b F h6 hC hwf IH k s links w hk hs hl hF hrow hfb herr h1 hd hc
        · cases hd : endsSlash s
          · exact cfind_tfn T a6 a7 a9 L v C b F h6 hC hwf IH k s links w hk hs hl hF hrow hfb herr h1 hd hc
          · exact cfind_ttn T a6 a7 a9 L v C b F h6 hC hwf IH k s links w hk hs hl hF hrow hfb herr h1 hd hc
    · exact cfind_empty T a6 a7 a9 L v C b F k s fo links w hk hrow hfb herr he
end Go.Proofs.YtehbjabneocflaaDoor
