/- The document's build. -/
import Derived.Test.YtiekhoehkgmbjaaDoorARefF
namespace Go.Proofs.YtiekhoehkgmbjaaDoor
open Go.RowKit Go.Maps

theorem ebox (w : World) (op : Int) (s : ByteArray) (v : Value) : (w.alloc (.cells #[.int .i64 op, .string s, v] 24)).heap[w.heap.size]? = some (.cells #[.int .i64 op, .string s, v] 24 (0, 0)) := World.alloc_heap_new w _
def EBox (W : World) (z : Nat) (op : Int) (s : ByteArray) (v : Value) : Prop := W.heap[z]? = some (.cells #[.int .i64 op, .string s, v] 24 (0, 0))
theorem EBox.cells {W : World} {z : Nat} {op : Int} {s : ByteArray} {v : Value} (h : EBox W z op s v) : W.cell? ⟨z, 0, none⟩ = some (.int .i64 op) ∧ W.cell? ⟨z, 1, none⟩ = some (.string s) ∧ W.cell? ⟨z, 2, none⟩ = some v := by
  unfold EBox at h
  simp [World.cell?, h]
theorem EBox.fr {B : Nat} {tv tv' : Value} {W W' : World} {z : Nat} {op : Int} {s : ByteArray} {v : Value} (h : EBox W z op s v) (hf : FrR B tv tv' W W') : EBox W' z op s v := hf.oth z _ 24 _ h (by decide) (by decide) (by decide) (by decide)
theorem RW.alloc {B a : Nat} {W : World} {sv tv ev : Value} {A : List RSt} {ss : List ByteArray} {evs : List Value} (h : RW B W a sv tv ev A ss evs) (o : Obj) : RW B (W.alloc o) a sv tv ev A ss evs := by
  have key : ∀ (k : Nat) (x : Obj), W.heap[k]? = some x → (W.alloc o).heap[k]? = some x := fun k x hk => (Below.heap_alloc W o k (Array.getElem?_eq_some_iff.1 hk).1).trans hk
  exact ⟨key a _ h.box, h.aB, row_keep h.sr (fun k c hk _ => key k _ hk), h.hss, h.hsz, row_keep h.ts (fun k c hk _ => key k _ hk), row_keep h.es (fun k c hk _ => key k _ hk), fun i u st hu hst => ⟨row_keep (h.el i u st hu hst).1 (fun k c hk _ => key k _ hk), (h.el i u st hu hst).2⟩⟩
theorem kids_shape {B : Nat} {W : World} {v : Value} {ks : List ExprD} (h : KRd B W v ks) : ∃ p c, v = .slice p ks.length c := by
  rcases h with ⟨e, e2⟩ | ⟨g, c, e, _⟩
  · subst e2; exact ⟨_, _, e⟩
  · exact ⟨_, _, e⟩
/-- A state, then back: what build answers. -/
theorem build_done {B a : Nat} {sv' tv tv' ev' : Value} {A' : List RSt} {ss' : List ByteArray} {evs evs' : List Value} {k : Nat} {w w' : World} (h : RW B w' a sv' tv' ev' A' ss' evs') (hf : FrR B tv tv' w w') (he : ∀ v ∈ evs', v ∈ evs ∨ ∀ g, v.ownBlock = some g → w.heap.size ≤ g) : BuildP B a tv evs A' k w (.returned (.int .i64 (k : Int))) w' := ⟨rfl, _, _, _, _, _, h, hf, he⟩
theorem evs_nil (evs : List Value) (n : Nat) : ∀ v ∈ evs ++ [Value.slice none 0 0], v ∈ evs ∨ ∀ g, v.ownBlock = some g → n ≤ g := fun v hv => by
  rcases List.mem_append.1 hv with h | h
  · exact .inl h
  · rw [List.mem_singleton] at h; subst h; exact .inr (fun g e => by cases e)
theorem nil_own (W : World) (B : Nat) : W.ownsRow B 3 1 (.slice none 0 0) ([] : List Nat).length (nats []) := ⟨rfl, .inl ⟨rfl, rfl⟩⟩
set_option maxRecDepth 100000 in
set_option maxHeartbeats 4000000 in
theorem build1 {op : Int} {tx : List UInt8} {ks : List ExprD} (h1 : op = 1) : BuildOK (.mk op tx ks) := by
  rintro B a sv tv ev A ss evs next w x _ _ _ ⟨⟩ ⟨s, v, rfl, rfl, hs, hk⟩ hR hn hW hsz hB
  subst h1
  obtain ⟨b0, b1, b2⟩ := EBox.cells (ebox w 1 s v)
  obtain ⟨p, c, rfl⟩ := kids_shape hk
  have hD : bldD (.mk 1 s.data.toList ks) A next = (A, next) := by rw [bldD, if_pos rfl]
  rw [hD]
  have HF : Hid (BuildP B a tv evs A next w (.returned (.int .i64 (next : Int))) (w.alloc (.cells #[.int .i64 1, .string s, .slice p ks.length c] 24))) := build_done (hR.alloc _) ((FrR.refl B tv w).alloc hB _) (fun v hv => .inl hv)
  clear hR hk hD
  go_enter Tryd.func40, Tryd.ntmps40
  go_wp2
  go_ret
  exact HF.out
set_option maxRecDepth 100000 in
set_option maxHeartbeats 4000000 in
theorem build2 {op : Int} {tx : List UInt8} {ks : List ExprD} (h1 : op = 2) : BuildOK (.mk op tx ks) := by
  rintro B a sv tv ev A ss evs next w x _ _ _ ⟨⟩ ⟨s, v, rfl, rfl, hs, hk⟩ hR hn hW hsz hB
  subst h1
  obtain ⟨b0, b1, b2⟩ := EBox.cells (ebox w 2 s v)
  obtain ⟨p, c, rfl⟩ := kids_shape hk
  have hD : bldD (.mk 2 s.data.toList ks) A next = (A ++ [⟨s.data.toList, next, []⟩], A.length) := by rw [bldD, if_neg (by decide), if_pos rfl]
  rw [hD]
  have hst := state_any B a sv tv ev A ss evs s next (.slice none 0 0) [] _ (hR.alloc (.cells #[.int .i64 2, .string s, .slice p ks.length c] 24)) (nil_own _ _) (fun g e => by cases e) hs (by rw [nodes] at hsz; omega) (by rw [World.size_alloc]; omega)
  have HFR := hide ((FrR.refl B tv w).alloc hB (.cells #[.int .i64 2, .string s, .slice p ks.length c] 24))
  clear hR hk hD
  go_enter Tryd.func40, Tryd.ntmps40
  go_wp2_with (go_at_call 39; refine hst.mono ?_; rintro e w2 ⟨rfl, sv', tv', ev', hR2, hF2⟩)
  go_ret
  exact build_done hR2 (HFR.out.trans hF2) (evs_nil _ _)
set_option maxRecDepth 100000 in
set_option maxHeartbeats 4000000 in
theorem build0 {op : Int} {tx : List UInt8} {ks : List ExprD} (h1 : op ≠ 1) (h2 : op ≠ 2) (h3 : op ≠ 3) (h4 : op ≠ 4) (h5 : op ≠ 5) : BuildOK (.mk op tx ks) := by
  rintro B a sv tv ev A ss evs next w x _ _ _ ⟨⟩ ⟨s, v, rfl, rfl, hs, hk⟩ hR hn hW hsz hB
  obtain ⟨b0, b1, b2⟩ := EBox.cells (ebox w op s v)
  obtain ⟨p, c, rfl⟩ := kids_shape hk
  have hD : bldD (.mk op s.data.toList ks) A next = (A ++ [⟨[], 0, []⟩], A.length) := by rw [bldD, if_neg h1, if_neg h2, if_neg h3, if_neg h4, if_neg h5]
  rw [hD]
  have hst := state_any B a sv tv ev A ss evs ⟨#[]⟩ 0 (.slice none 0 0) [] _ (hR.alloc (.cells #[.int .i64 op, .string s, .slice p ks.length c] 24)) (nil_own _ _) (fun g e => by cases e) (by decide) (by rw [nodes] at hsz; omega) (by rw [World.size_alloc]; omega)
  have HFR := hide ((FrR.refl B tv w).alloc hB (.cells #[.int .i64 op, .string s, .slice p ks.length c] 24))
  clear hR hk hD
  go_enter Tryd.func40, Tryd.ntmps40
  go_wp2_with (go_at_call 39; refine hst.mono ?_; rintro e w2 ⟨rfl, sv', tv', ev', hR2, hF2⟩)
  go_ret
  exact build_done hR2 (HFR.out.trans hF2) (evs_nil _ _)
end Go.Proofs.YtiekhoehkgmbjaaDoor
