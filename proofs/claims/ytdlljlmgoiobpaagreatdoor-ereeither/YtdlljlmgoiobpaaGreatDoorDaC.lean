/- The document's reader: many. -/
import Derived.Test.YtdlljlmgoiobpaaGreatDoorDaA
namespace Go.Proofs.YtdlljlmgoiobpaaGreatDoor
open Go.RowKit Go.Maps
theorem Tryz.info32 : (Tryz.prog.info? 32).map (fun i => (i.zero, i.size, i.bytes)) = some (some (.agg #[.int .i64 0, .string ⟨#[]⟩, .slice none 0 0]), 3, 48) := by kernel_rfl
theorem Tryz.underlying30' : Tryz.prog.underlying 30 = some (.slice 32) := by kernel_rfl
/-- A block that holds one of the document's Exprs. -/
def XB (W : World) (g : Nat) (op : Int) (st : ByteArray) (ka : Option Addr) (m c : Nat) : Prop := W.heap[g]? = some (.cells #[.int .i64 op, .string st, .slice ka m c] 32 (0, 0))
theorem XB.cells {W : World} {g : Nat} {op : Int} {st : ByteArray} {ka : Option Addr} {m c : Nat} (h : XB W g op st ka m c) : W.cell? ⟨g, 0, none⟩ = some (.int .i64 op) ∧ W.cell? ⟨g, 1, none⟩ = some (.string st) ∧ W.cell? ⟨g, 2, none⟩ = some (.slice ka m c) ∧ (∀ j, W.frozen? ⟨g, j, none⟩ = false) ∧ g < W.heap.size := by
  unfold XB at h
  refine ⟨?_, ?_, ?_, ?_, (Array.getElem?_eq_some_iff.1 h).1⟩ <;> simp [World.cell?, World.frozen?, h]
theorem XB.keep {b g : Nat} {W W' : World} {op : Int} {st : ByteArray} {ka : Option Addr} {m c : Nat} (h : XB W g op st ka m c) (hf : FrE b W W') (hg : g ≠ b) : XB W' g op st ka m c := (hf.block g (Array.getElem?_eq_some_iff.1 h).1 hg).trans h
theorem XB.all {g : Nat} {W W' : World} {op : Int} {st : ByteArray} {ka : Option Addr} {m c : Nat} (h : XB W g op st ka m c) (hf : ∀ x, FrE x W W') : XB W' g op st ka m c := h.keep (hf (g + 1)) (by omega)
theorem XB.new (W : World) (op : Int) (st : ByteArray) (ka : Option Addr) (m c : Nat) : XB (W.alloc (.cells #[.int .i64 op, .string st, .slice ka m c] 32)) W.heap.size op st ka m c := World.alloc_heap_new W _
def set3x (W : World) (g : Nat) (op : Int) (st : ByteArray) (ka : Option Addr) (m c : Nat) : World := ((W.setCell ⟨g, 0, none⟩ (.int .i64 op)).setCell ⟨g, 1, none⟩ (.string st)).setCell ⟨g, 2, none⟩ (.slice ka m c)
theorem set3x_fr (W : World) (g : Nat) (op : Int) (st : ByteArray) (ka : Option Addr) (m c : Nat) : FrE g W (set3x W g op st ka m c) := ((FrE.set g W 0 _).trans (FrE.set g _ 1 _)).trans (FrE.set g _ 2 _)
theorem XB.set3x {W : World} {g : Nat} {op0 : Int} {st0 : ByteArray} {ka0 : Option Addr} {m0 c0 : Nat} (h : XB W g op0 st0 ka0 m0 c0) (op : Int) (st : ByteArray) (ka : Option Addr) (m c : Nat) : XB (set3x W g op st ka m c) g op st ka m c := cells_set (cells_set (cells_set h _) _) _
theorem fr_grown1 {b B ty n : Nat} {w W w6 : World} {v : Value} {xs : List Value} {P : Obj} (hf : FrE b w W) (hg : (W.alloc P).grownBy w6 v.ownBlock) (ho : W.ownsRow B ty 3 v n xs) (hB : w.heap.size ≤ B) : FrE b w w6 := by
  have hfs := hf.size
  have hio : ∀ k, v.ownBlock = some k → B ≤ k := fun k hk => by
    rcases ho.2 with ⟨e, _⟩ | ⟨g', c', cur, e, hb, _⟩
    · rw [e] at hk; cases hk
    · rw [e] at hk; cases hk; exact hb
  refine ⟨hg.os.trans hf.os, hg.tape.trans hf.tape, hg.output.trans hf.output, ?_, fun k hk hne => ?_⟩
  · have := hg.size
    rw [World.size_alloc] at this
    omega
  · exact (hg.block k (by rw [World.size_alloc]; omega) (fun e => by have := hio k e.symm; omega)).trans ((Below.heap_alloc _ _ _ (by omega)).trans (hf.block k hk hne))
set_option maxRecDepth 100000 in
set_option maxHeartbeats 2000000 in
theorem many_any (op : Int) (st : ByteArray) (ka : Option Addr) (m c n : Nat) (hn : n ≤ 1000) (w : World) :
    Calls Tryz.prog 54 #[.agg #[.int .i64 op, .string st, .slice ka m c], .int .i64 (n : Int)] w fun e w' => (∃ (ka' : Option Addr) (c' : Nat) (xs : List Value), e = .returned (.slice ka' n c') ∧ w'.ownsRow (w.heap.size + 1) 32 3 (.slice ka' n c') n xs ∧ ∀ u ∈ xs, u.oneCell' = true) ∧ ∀ x, FrE x w w' := by
  have x0 : XB (w.alloc (.cells #[.int .i64 op, .string st, .slice ka m c] 32)) w.heap.size op st ka m c := XB.new w op st ka m c
  have f0 : ∀ x, FrE x w (w.alloc (.cells #[.int .i64 op, .string st, .slice ka m c] 32)) := fun x => FrE.alloc x _ _
  have H0 := hide (⟨x0, f0⟩ : _ ∧ _)
  clear x0 f0
  go_enter Tryz.func54, Tryz.ntmps54
  go_wp2
  go_loopw [5, 6] (fun lv iv wr => ∃ (i : Nat) (ka' : Option Addr) (c' : Nat) (xs : List Value), lv = .slice ka' i c' ∧ iv = .int .i64 (i : Int) ∧ i ≤ n ∧ wr.ownsRow (w.heap.size + 1) 32 3 (.slice ka' i c') i xs ∧ XB wr w.heap.size op st ka m c ∧ (∀ u ∈ xs, u.oneCell' = true) ∧ ∀ x, FrE x w wr) (fun _ iv _ => n - (intOf iv).toNat)
  case atStart => exact ⟨0, none, 0, [], rfl, rfl, Nat.zero_le _, ⟨rfl, .inl ⟨rfl, rfl⟩⟩, H0.out.1, (fun u hu => by cases hu), H0.out.2⟩
  case round =>
    obtain ⟨i, ka', c', xs, rfl, rfl, hi, hown, hx, hone, hf⟩ := hrel
    clear H0
    by_cases hlt : i < n
    · have hiI : (i : Int) < (n : Int) := by omega
      obtain ⟨a0, a1, a2, af, al⟩ := hx.cells
      obtain ⟨i0, hi0, z0, z1, z2⟩ := info_parts Tryz.info32
      have HO := hide hown
      have HX := hide (⟨hx, hf⟩ : _ ∧ _)
      clear hown hx hf
      go_wp2_with (at_builtin; refine wpList_append_lies _ rfl (.tmp 12) (.tmp 14) 30 rfl (w.heap.size + 1) 32 i0 _ 3 48 Tryz.underlying30' hi0 z0 z1 z2 rfl (by decide) (.slice ka' i c') i xs rfl (HO.out.alloc _) ⟨wr.heap.size, 0, none⟩ 1 1 [.int .i64 op, .string st, .slice ka m c] rfl rfl (news3 _ _ rfl _ _ _ _) (by simp [Value.oneCell']) (by decide) (by unfold maxLen; omega) (by omega) (by rw [World.size_alloc]; omega) _ rfl ?_; intro g6 c6 w6 hown6 hg6 hat6 hlt6; have H6 := hide (⟨hown6, hg6⟩ : _ ∧ _); clear hown6 hg6 hat6 hlt6)
      go_roundw
      case rel =>
        obtain ⟨hown6, hg6⟩ := H6.out
        obtain ⟨hx, hf⟩ := HX.out
        have F6 : ∀ x, FrE x w w6 := fun x => fr_grown1 (hf x) hg6 HO.out (by omega)
        have X6 : XB w6 w.heap.size op st ka m c := (hg6.block _ (by rw [World.size_alloc]; omega) (fun e => by have := (own_in HO.out e.symm).1; omega)).trans ((Below.heap_alloc _ _ _ al).trans hx)
        have one6 : ∀ u ∈ xs ++ [.int .i64 op, .string st, .slice ka m c], u.oneCell' = true := fun u hu => by
          rcases List.mem_append.1 hu with hu | hu
          · exact hone u hu
          · simp at hu
            rcases hu with rfl | rfl | rfl <;> rfl
        exact ⟨i + 1, some ⟨g6, 0, none⟩, c6, _, rfl, by simp, by omega, hown6, X6, one6, F6⟩
      case measure => simp [intOf]; omega
    · have hie : i = n := by omega
      subst hie
      have hiI : ¬ ((i : Int) < (i : Int)) := by omega
      have HX := hide (⟨hown, hf⟩ : _ ∧ _)
      clear hown hx hf
      go_wp2
      go_ret
      exact ⟨⟨ka', c', rfl, xs, HX.out.1, hone⟩, HX.out.2⟩
end Go.Proofs.YtdlljlmgoiobpaaGreatDoor
