import Derived.Test.YtehbjabneocflaaDoorFind
namespace Go.Proofs.YtehbjabneocflaaDoor
open Go.RowKit

theorem errno_any {C : Nat} {a6 a7 a9 a2 a4 a8 : Addr} {w : World} (h : Sent C a6 a7 a9 a2 a4 a8 w) {e : Int} (he : e = 6 ∨ e = 7 ∨ e = 9) : Calls Tryd.prog 28 #[errV 122 a6 a7 a9 e] w fun e' w' => e' = .returned (.int .i64 e) ∧ w' = w := by
  rcases he with rfl | rfl | rfl
  · exact errno6 C a6 a7 a9 a2 a4 a8 w h
  · exact errno7 C a6 a7 a9 a2 a4 a8 w h
  · exact errno9 C a6 a7 a9 a2 a4 a8 w h
theorem hasNode_out (a : Option Addr) (l c : Nat) (i : Int) (w : World) (h : i < 0 ∨ (l : Int) ≤ i) :
    Calls Tryd.prog 43 #[.slice a l c, .int .i64 i] w fun e w' => e = .returned (.bool false) ∧ w' = w := by
  by_cases h0 : 0 ≤ i
  · have h1 : (l : Int) ≤ i := by omega
    go_enter Tryd.func43, Tryd.ntmps43
    go_wp2
    go_ret
    exact ⟨by simp; omega, rfl⟩
  · exact hasNode_no a l c i w h0
set_option maxRecDepth 100000 in
set_option maxHeartbeats 2000000 in
theorem cfind_out (T : Nat) (a6 a7 a9 : Addr) (v : Value) (b : Nat) (from_ : Int) (s : ByteArray) (fo : Bool) (links : Nat) (a : Option Addr) (m cap : Nat) (w : World) (hv : v = .slice a m cap) (hout : from_ < 0 ∨ (m : Int) ≤ from_) (hfb : FB 57 w b v links) (herr : Errs T a6 a7 a9 w) :
    Calls Tryd.prog 27 #[.pointer (some ⟨b, 0, none⟩), .int .i64 from_, .string s, .bool fo] w (CPost T a6 a7 a9 v b (0, 6, links) w) := by
  subst hv
  have HFB := hide hfb
  have c0 := hfb.c0
  have e0 := herr.1
  have HN := hide (hasNode_out a m cap from_ w hout)
  clear hfb herr
  go_enter Tryd.func27, Tryd.ntmps27
  go_wp2_with fail
  refine (unhide HN).mono ?_
  rintro e ww ⟨rfl, hww⟩
  rw [hww]; clear hww
  go_wp2
  go_quiet (fail)
  go_wp2
  go_ret2
  exact c_mk (x := 0) (y := 6) rfl (by omega) (show FB 57 (World.drewN _ nq) _ _ _ from unhide HFB) (grown_of_below (below_drewN (Below.refl _ _) nq))

set_option maxRecDepth 100000 in
set_option maxHeartbeats 2000000 in
theorem tfind_any (C : Nat) (a6 a7 a9 a2 a4 a8 : Addr) (h6 : 6 < C) (L : List NodeD) (v : Value) (hwf : WF L) (from_ : Int) (s : ByteArray) (fo : Bool) (w : World) (hs : s.size ≤ 1073741824) (hrow : NodeRow C w v L) (hC : C ≤ w.heap.size) (hS : Sent C a6 a7 a9 a2 a4 a8 w) :
    Calls Tryd.prog 16 #[v, .int .i64 from_, .string s, .bool fo] w fun e w' => e = .returned (.tuple #[.int .i64 ((findR L from_ s fo).1 : Int), .int .i64 (findR L from_ s fo).2.1]) ∧ Below w.heap.size w w' := by
  obtain ⟨a, cap, rfl⟩ := hrow.form
  have hlen := hwf.len
  have HF : ∀ W0, FB 57 W0 w.heap.size (.slice a L.length cap) 0 → Below w.heap.size w W0 → Hid (Calls Tryd.prog 27 #[.pointer (some ⟨w.heap.size, 0, none⟩), .int .i64 from_, .string s, .bool fo] W0 (CPost 122 a6 a7 a9 (.slice a L.length cap) w.heap.size (findR L from_ s fo) W0)) := by
    intro W0 hfb hbl
    refine hide ?_
    by_cases hout : from_ < 0 ∨ (L.length : Int) ≤ from_
    · have e : findR L from_ s fo = (0, 6, 0) := by unfold findR; rw [if_pos hout]
      rw [e]
      exact cfind_out 122 a6 a7 a9 _ w.heap.size from_ s fo 0 a L.length cap W0 rfl hout hfb (hS.errs.below hbl (by omega))
    · obtain ⟨k, rfl⟩ : ∃ k : Nat, from_ = (k : Int) := ⟨from_.toNat, by omega⟩
      have e : findR L (k : Int) s fo = findD L 41 k s fo 0 := by unfold findR; rw [if_neg (by omega), Int.toNat_natCast]
      rw [e]
      exact cfind_any 122 a6 a7 a9 L _ C w.heap.size h6 hC hwf 41 k s fo 0 W0 (by omega) hs (by omega) (by omega) (hrow.below (hbl.mono hC)) hfb (hS.errs.below hbl (by omega))
  have HE : Hid (okE (findR L from_ s fo)) := by
    unfold Hid findR
    by_cases hout : from_ < 0 ∨ (L.length : Int) ≤ from_
    · rw [if_pos hout]; exact .inr ⟨rfl, .inl rfl⟩
    · rw [if_neg hout]; exact find_err L 41 _ s fo 0
  generalize findR L from_ s fo = R at HF HE ⊢
  have HROW := hide hrow
  have HS := hide hS
  clear hrow hwf hS
  go_enter Tryd.func16, Tryd.ntmps16
  go_wp2_with fail
  obtain ⟨W0, hW0⟩ : ∃ W0, w.alloc (.cells #[.slice a L.length cap, .int .i64 0] 57) = W0 := ⟨_, rfl⟩
  rw [hW0]
  have hfb : FB 57 W0 w.heap.size (.slice a L.length cap) 0 := by rw [← hW0]; exact World.alloc_heap_new w _
  have hbl : Below w.heap.size w W0 := by rw [← hW0]; exact (Below.refl _ _).alloc (Nat.le_refl _) _
  clear hW0
  refine (unhide (HF W0 hfb hbl)).mono ?_
  rintro e w1 ⟨rfl, _, hg1⟩
  by_cases he0 : R.2.1 = 0
  · have HV : Hid (errV 122 a6 a7 a9 R.2.1 = .nilIface) := by unfold Hid errV; rw [if_pos he0]
    rw [HV.out]
    go_wp2
    go_ret2
    exact ⟨ret_two rfl he0.symm, hbl.grown hg1 hbl.size (fun j e => by have := Option.some.inj e; omega)⟩
  · have hR : R.1 = 0 ∧ (R.2.1 = 6 ∨ R.2.1 = 7 ∨ R.2.1 = 9) := HE.out.resolve_left he0
    obtain ⟨R1, R2, R3⟩ := R
    obtain ⟨rfl, hR⟩ := hR
    have HN := hide (errno_any ((unhide HS).grown (b := w.heap.size) ((grown_of_below hbl).trans hg1) hC h6) hR)
    have hV : errV 122 a6 a7 a9 R2 = .iface 122 (.pointer (some (if R2 = 6 then a6 else if R2 = 7 then a7 else a9))) := by unfold errV; rw [if_neg he0]
    rw [hV] at HN ⊢
    clear hV
    generalize (if R2 = 6 then a6 else if R2 = 7 then a7 else a9) = aa at HN ⊢
    clear HS HROW HF hR he0 HE
    go_wp2_with fail
    refine (unhide HN).mono ?_
    rintro e ww ⟨rfl, hww⟩
    rw [hww]; clear hww
    go_wp2
    go_ret2
    exact ⟨ret_two rfl rfl, hbl.grown hg1 hbl.size (fun j e => by have := Option.some.inj e; omega)⟩
end Go.Proofs.YtehbjabneocflaaDoor
