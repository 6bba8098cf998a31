/- The program's checkNames. -/
import Derived.Test.YtconbmfbokpklaaGreatDoorName
import Derived.Test.YtconbmfbokpklaaGreatDoorStop
namespace Go.Proofs.YtconbmfbokpklaaGreatDoor
open Go.RowKit Go.Shelf
attribute [local go_sem] Oper.semAt_some

/-- No error, or the one on a line's form. -/
def errT (A : Ads) (ok : Bool) : Value × List Addr := if ok then (.nilIface, []) else (.iface 207 (.pointer (some A.t)), [A.t])
def ChkPost (A : Ads) (ok : Bool) (w : World) (e : Ending) (w' : World) : Prop := e = .returned (errT A ok).1 ∧ Below w.heap.size w w'
theorem errT_O {C : Nat} {A : Ads} {W : World} (h : Sent C A W) (ok : Bool) : OErr W (errT A ok) := by
  cases ok
  · obtain ⟨_, c, t, hp⟩ := h.pt
    exact .inr ⟨_, _, rfl, .leaf _ c t hp⟩
  · exact .inl rfl
theorem ownFrom_boxed {α : Type} {B b t : Nat} {v : Value} : OwnFrom B (fun (_ : List α) W => Boxed W b t v) := by
  intro s A W row h hg hr
  refine h.kept hg ?_
  intro e
  obtain ⟨_, o, ho, hc⟩ := hr b e.symm
  have h2 : A.heap[b]? = _ := h
  rw [h2] at ho
  cases ho
  cases hc
theorem keepsFrom_below {B : Nat} {W W' : World} (h : Below W.heap.size W W') : KeepsFrom B W W' := ⟨h.size, fun k _ _ hk _ => (h.block k (Array.getElem?_eq_some_iff.1 hk).1).trans hk⟩
theorem cut_free (s : ByteArray) : ∀ x ∈ cutS 47 s, (47 : UInt8) ∉ x.data.toList := by
  intro x hx
  unfold cutS at hx
  obtain ⟨p, hp, rfl⟩ := List.mem_map.1 hx
  rw [data_bs]; exact split_free _ p hp
theorem cut_piece (s : ByteArray) : ∀ x ∈ cutS 47 s, x.size ≤ s.size := cutS_le 47 s

theorem Boxed.put {W : World} {b t D : Nat} {v : Value} {o : Obj} (h : Boxed W b t v) (hne : b ≠ D) : Boxed (W.putObj D o) b t v := (World.putObj_heap_other hne).trans h

set_option maxRecDepth 100000 in
set_option maxHeartbeats 2000000 in
theorem checkNames_in (n : Nat) (hn : 4 ≤ n) {C : Nat} {A : Ads} (s : ByteArray) (hs : s.size ≤ 1000000) (w : World) (hsent : Sent C A w) (hC : C ≤ w.heap.size) :
    CallsIn Fence.wide n Tryz.prog 69 #[.string s] w (ChkPost A ((cutS 47 s).all nameOk) w) := by
  have h1 : 1 ≤ n := by omega
  have HSE := hide hsent
  have HFR := hide (cut_free s)
  have HLE := hide (cut_piece s)
  clear hsent
  refine callsIn_of_wp_marks Tryz.func69 rfl trivial ?_ rfl
  simp only [Tryz.ntmps69, List.size_toArray, List.length_cons, List.length_nil, Nat.reduceAdd, Nat.reduceSub, Array.replicate_succ, Array.replicate_zero, List.push_toArray, List.append_toArray, List.nil_append, List.cons_append]
  gi_wp2_with (refine ⟨trivial, ?_⟩; gi_at_call 84; refine (SplitSeq_in (n - 1) (by omega) _ _ _).mono ?_; rintro e w' ⟨rfl, rfl⟩)
  obtain ⟨w4, hw4⟩ : ∃ w4, (((w.alloc (.cells #[.nilIface] 48)).alloc (.cells #[.string s] 9)).alloc (.cells #[.string ⟨#[47]⟩] 9)).alloc (.cells #[.int .i64 0] 3) = w4 := ⟨_, rfl⟩
  rw [hw4]
  have bO : Boxed w4 w.heap.size 48 .nilIface := by rw [← hw4]; exact (((Boxed.new w 48 .nilIface).alloc _).alloc _).alloc _
  have bS : Boxed w4 (w.heap.size + 1) 9 (.string s) := by
    rw [← hw4]
    have := Boxed.new (w.alloc (.cells #[.nilIface] 48)) 9 (.string s)
    rw [World.size_alloc] at this
    exact (this.alloc _).alloc _
  have bP : Boxed w4 (w.heap.size + 2) 9 (.string ⟨#[47]⟩) := by
    rw [← hw4]
    have := Boxed.new ((w.alloc (.cells #[.nilIface] 48)).alloc (.cells #[.string s] 9)) 9 (.string ⟨#[47]⟩)
    rw [World.size_alloc, World.size_alloc] at this
    exact this.alloc _
  have bQ : Boxed w4 (w.heap.size + 3) 3 (.int .i64 0) := by
    rw [← hw4]
    have := Boxed.new (((w.alloc (.cells #[.nilIface] 48)).alloc (.cells #[.string s] 9)).alloc (.cells #[.string ⟨#[47]⟩] 9)) 3 (.int .i64 0)
    rw [World.size_alloc, World.size_alloc, World.size_alloc] at this
    exact this
  have hB0 : Below w.heap.size w w4 := by
    rw [← hw4]; exact ((((Below.refl _ w).alloc (Nat.le_refl _) _).alloc (by simp) _).alloc (by simp; omega) _).alloc (by simp; omega) _
  have hsz4 : w4.heap.size = w.heap.size + 4 := by rw [← hw4]; simp
  clear hw4
  refine wpIn_range_boxS rfl h1 (gf := 135) (lb := #[.pointer (some ⟨w.heap.size + 2, 0, none⟩), .pointer (some ⟨w.heap.size + 1, 0, none⟩), .pointer (some ⟨w.heap.size + 3, 0, none⟩)]) rfl trivial (enters_of Tryz.func135 (by kernel_rfl) rfl)
    (bx := w.heap.size + 1) (by omega) (split_seqS (n - 1) (by omega) (w.heap.size + 1) (w.heap.size + 2) (w.heap.size + 3) (by omega) (by omega) s (by omega) w4 bS bP bQ)
    (fun {A B C} h k j hj => (k j hj).trans (h j hj)) (fun W l o o' hl _ j hj => World.putObj_heap_other (by omega)) (fun _ => rfl)
    (fun (pre : List ByteArray) W => Boxed W w.heap.size 48 .nilIface ∧ (Below w.heap.size w W ∧ (w.heap.size + 4 ≤ W.heap.size ∧ pre.all nameOk = true)))
    (fun c (pre : List ByteArray) W => Boxed W w.heap.size 48 (.iface 207 (.pointer (some A.t))) ∧ (Below w.heap.size w W ∧ (c = .ret ∧ pre.all nameOk = false)))
    (OwnFrom.and ownFrom_boxed (OwnFrom.and (ownFrom_below (Nat.le_refl _) (by omega)) (OwnFrom.and (fun _ _ _ _ hs hg _ => Nat.le_trans hs hg.size) (fun _ _ _ _ hs _ _ => hs))))
    (fun c => OwnFrom.and ownFrom_boxed (OwnFrom.and (ownFrom_below (Nat.le_refl _) (by omega)) (fun _ _ _ _ hs _ _ => hs)))
    (fun p A v hs => by
      obtain ⟨hu, hB, hz, ho⟩ := hs
      exact ⟨hu.kept (grownBy_setCell' A (w.heap.size + 1) v) (fun e => by have := Option.some.inj e; omega), hB.setCell (p := ⟨w.heap.size + 1, 0, none⟩) (by show w.heap.size ≤ w.heap.size + 1; omega) _, Nat.le_trans hz (grownBy_setCell' A (w.heap.size + 1) v).size, ho⟩)
    ⟨bO, hB0, by omega, rfl⟩
    (fun x => { tmps := #[.string s, undef, .pointer (some ⟨w.heap.size, 0, none⟩), .string x, .string s, .func (.func 135) #[] #[.pointer (some ⟨w.heap.size + 2, 0, none⟩), .pointer (some ⟨w.heap.size + 1, 0, none⟩), .pointer (some ⟨w.heap.size + 3, 0, none⟩)], .string x, undef, undef, undef, undef], defers := [] }) ?assign ?body ?done ?stop
  case assign =>
    intro l x W K hK
    gi_wp2
    exact hK
  case body =>
    rintro l pre x W ⟨hv, hB, hWs, hall⟩ ⟨r, hcut⟩
    have hxm : x ∈ cutS 47 s := by rw [hcut]; simp
    have hx47 := HFR.out x hxm
    have hxs := HLE.out x hxm
    have HN := hide (isNameP_any x W (by omega) hx47)
    have HCU := hide hcut
    have HALL := hide hall
    have h11 : 1 ≤ n - 1 - 1 := by omega
    have hc0 := ((unhide HSE).below (hB.mono hC)).c0
    clear hxm hx47 hcut hall
    cases hok : nameOk x
    · rw [hok] at HN
      gi_wp2_with (refine ⟨trivial, ?_⟩; gi_at_call 94; refine (CallsIn.inRound l (callsIn_wide.2 (unhide HN))).mono ?_; rintro e W2 ⟨rfl, hb2⟩; have hv2 : Boxed W2 w.heap.size 48 .nilIface := (hb2.block w.heap.size (by omega)).trans hv; have hcc := hv2.cell; have hff := hv2.frozen; have hc02 : W2.cell? ⟨0, 0, none⟩ = some (.iface 207 (.pointer (some A.t))) := ((unhide HSE).below ((hB.trans (hb2.mono (by omega))).mono hC)).c0)
      have hB2 : Below w.heap.size w W2 := hB.trans (hb2.mono (by omega))
      refine ⟨?_, (hv2.set _), hB2.setCell (p := ⟨w.heap.size, 0, none⟩) (Nat.le_refl _) _, rfl, by rw [List.all_append, HALL.out]; simp [hok]⟩
      exact (keepsFrom_below hb2).trans (KeepsFrom.of_grownBy (grownBy_setCell' W2 w.heap.size _) (fun j e => by cases e; omega))
    · rw [hok] at HN
      gi_wp2_with (refine ⟨trivial, ?_⟩; gi_at_call 94; refine (CallsIn.inRound l (callsIn_wide.2 (unhide HN))).mono ?_; rintro e W2 ⟨rfl, hb2⟩)
      have hv2 : Boxed W2 w.heap.size 48 .nilIface := (hb2.block w.heap.size (by omega)).trans hv
      have hB2 : Below w.heap.size w W2 := hB.trans (hb2.mono (by omega))
      refine ⟨keepsFrom_below hb2, fun j hj => hb2.block j (by omega), hv2, hB2, Nat.le_trans hWs hb2.size, by rw [List.all_append, HALL.out]; simp [hok]⟩
  case done =>
    rintro D ys W hD rfl ⟨hv, hB, _, hall⟩ hK
    have hc := hv.cell
    have hfz := hv.frozen
    gi_wp2
    have hKD := set_block W w.heap.size D .nilIface _ (by omega) hK
    have hc2 : (World.putObj (W.setCell ⟨w.heap.size, 0, none⟩ .nilIface) D (.deferred none)).cell? ⟨w.heap.size, 0, none⟩ = some .nilIface := (Boxed.put (hv.set .nilIface) (by omega)).cell
    refine ⟨by simp, .inl ⟨_, _, rfl, run_takeDeferred hKD, ?_⟩⟩
    refine ⟨.nilIface, ?_, ?_⟩
    · simp [results, Tryz.results69, go_sem, hc2]
    · rw [hall]
      exact ⟨rfl, (hB.setCell (p := ⟨w.heap.size, 0, none⟩) (Nat.le_refl _) _).trans (belowK_b (w := w) (Nat.le_refl _) _ D _ _ (by omega) hKD rfl rfl)⟩
  case stop =>
    rintro D c pre W hD ⟨r, hcut⟩ ⟨hv, hB, rfl, hall⟩ hK
    have hno : (cutS 47 s).all nameOk = false := by rw [hcut, List.all_append, hall]; rfl
    have hc2 : (World.putObj W D (.deferred none)).cell? ⟨w.heap.size, 0, none⟩ = some (.iface 207 (.pointer (some A.t))) := (Boxed.put hv (by omega)).cell
    gi_wp2
    refine ⟨by simp, .inl ⟨_, _, rfl, run_takeDeferred hK, ?_⟩⟩
    refine ⟨.iface 207 (.pointer (some A.t)), ?_, ?_⟩
    · simp [results, Tryz.results69, go_sem, hc2]
    · rw [hno]
      exact ⟨rfl, hB.trans (belowK_b (w := w) (Nat.le_refl _) _ D _ _ (by omega) hK rfl rfl)⟩
theorem checkNames_any {C : Nat} {A : Ads} (s : ByteArray) (hs : s.size ≤ 1000000) (w : World) (hsent : Sent C A w) (hC : C ≤ w.heap.size) :
    Calls Tryz.prog 69 #[.string s] w (ChkPost A ((cutS 47 s).all nameOk) w) :=
  (callsIn_wide (n := 8)).1 (checkNames_in 8 (by omega) s hs w hsent hC)
end Go.Proofs.YtconbmfbokpklaaGreatDoor
