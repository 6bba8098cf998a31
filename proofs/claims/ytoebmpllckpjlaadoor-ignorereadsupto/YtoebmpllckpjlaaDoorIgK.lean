/- The law's ruleOf and sameRules. -/
import Derived.Test.YtoebmpllckpjlaaDoorIgJ
namespace Go.Proofs.YtoebmpllckpjlaaDoor
open Go.RowKit Go.Maps

set_option maxRecDepth 100000 in
set_option maxHeartbeats 1000000 in
theorem lawRule_any (r : RuleD) (w : World) : Calls Tryd.prog 12 #[.agg #[.bool r.nt, .bool r.dr, .bool r.fx, .string r.pt]] w fun e w' => e = .returned (.agg #[.bool r.nt, .bool r.dr, .bool r.fx, .string r.pt]) ∧ Below w.heap.size w w' := by
  have hb0 : RB 38 (w.alloc (.cells #[.bool r.nt, .bool r.dr, .bool r.fx, .string r.pt] 38)) w.heap.size r := World.alloc_heap_new w _
  obtain ⟨W2, hW2⟩ : ∃ W2, (w.alloc (.cells #[.bool r.nt, .bool r.dr, .bool r.fx, .string r.pt] 38)).alloc (.cells #[.bool false, .bool false, .bool false, .string ⟨#[]⟩] 28) = W2 := ⟨_, rfl⟩
  have hbl : Below w.heap.size w W2 := by rw [← hW2]; exact ((Below.refl _ _).alloc (Nat.le_refl _) _).alloc (by rw [World.size_alloc]; omega) _
  have hE : RB 38 W2 w.heap.size r := by
    rw [← hW2]
    exact (Below.heap_alloc _ _ _ (by rw [World.size_alloc]; omega)).trans hb0
  have hz : RBox W2 (w.heap.size + 1) noRule := by
    have := World.alloc_heap_new (w.alloc (.cells #[.bool r.nt, .bool r.dr, .bool r.fx, .string r.pt] 38)) (.cells #[.bool false, .bool false, .bool false, .string ⟨#[]⟩] 28)
    rw [hW2, World.size_alloc] at this
    exact this
  obtain ⟨d0, d1, d2, d3, _⟩ := hE.cells
  obtain ⟨y0, y1, y2, y3, yf⟩ := hz.cells
  have f0 := yf 0
  have f1 := yf 1
  have f2 := yf 2
  have f3 := yf 3
  have HZ := hide (⟨hz, hbl⟩ : _ ∧ _)
  clear hb0 hE hz hbl yf
  go_enter Tryd.func12, Tryd.ntmps12
  go_wp2
  obtain ⟨hz4, ho4⟩ := rset4 HZ.out.1 r
  obtain ⟨q0, q1, q2, q3, _⟩ := hz4.cells
  refine bodyPost_ret (v := .agg #[.bool r.nt, .bool r.dr, .bool r.fx, .string r.pt]) (by simp [results, Tryd.results12, go_sem, q0, q1, q2, q3]) rfl ⟨rfl, below_out HZ.out.2 rfl rfl rfl (by simp only [set_size]; exact Nat.le_refl _) (fun k hk => ho4 k (by omega))⟩
set_option maxRecDepth 100000 in
set_option maxHeartbeats 4000000 in
theorem sameRules_any {Ba Bb : Nat} {va vb : Value} {rs : List RuleD} (w : World) (hlen : rs.length ≤ 100000000) (ha : RRow 28 Ba w va rs) (hb : RRow 38 Bb w vb rs) (hBa : Ba ≤ w.heap.size) (hBb : Bb ≤ w.heap.size) :
    Calls Tryd.prog 7 #[va, vb] w fun e w' => e = .returned (.bool true) ∧ Below w.heap.size w w' := by
  obtain ⟨pa, ca, rfl⟩ := ha.shape
  obtain ⟨pb, cb, rfl⟩ := hb.shape
  have HH := hide (⟨ha, hb⟩ : _ ∧ _)
  clear ha hb
  go_enter Tryd.func7, Tryd.ntmps7
  go_wp2
  go_loopw [5] (fun iv wr => ∃ k : Nat, k ≤ rs.length ∧ iv = .int .i64 k ∧ Below w.heap.size w wr) (fun iv _ => rs.length - (intOf iv).toNat)
  case atStart => exact ⟨0, Nat.zero_le _, rfl, Below.refl _ _⟩
  case round =>
    obtain ⟨k, hk, rfl, hbr⟩ := hrel
    by_cases hlt : k < rs.length
    · have hkI : (k : Int) < (rs.length : Int) := by omega
      obtain ⟨r, hr⟩ : ∃ r, rs[k]? = some r := ⟨_, List.getElem?_eq_getElem hlt⟩
      rcases HH.out.1 with ⟨_, e⟩ | ⟨g1, d1, e1, hg1, _, _, hx1⟩
      · rw [e] at hlt; simp at hlt
      rcases HH.out.2 with ⟨_, e⟩ | ⟨g4, d4, e4, hg4, _, _, hx4⟩
      · rw [e] at hlt; simp at hlt
      obtain ⟨rfl, rfl⟩ : pa = some ⟨g1, 0, none⟩ ∧ ca = d1 := by cases e1; exact ⟨rfl, rfl⟩
      obtain ⟨rfl, rfl⟩ : pb = some ⟨g4, 0, none⟩ ∧ cb = d4 := by cases e4; exact ⟨rfl, rfl⟩
      have at1 : ∀ j u, w.cell? ⟨g1, j, none⟩ = some u → wr.cell? ⟨g1, j, none⟩ = some u := fun j u h => (hbr.cell (p := ⟨g1, j, none⟩) (by show g1 < _; omega)).trans h
      have at4 : ∀ j u, w.cell? ⟨g4, j, none⟩ = some u → wr.cell? ⟨g4, j, none⟩ = some u := fun j u h => (hbr.cell (p := ⟨g4, j, none⟩) (by show g4 < _; omega)).trans h
      obtain ⟨y0, y1, y2, y3⟩ := hx1 k r hr
      obtain ⟨z0, z1, z2, z3⟩ := hx4 k r hr
      have y0 := at1 _ _ y0
      have y1 := at1 _ _ y1
      have y2 := at1 _ _ y2
      have y3 := at1 _ _ y3
      have z0 := at4 _ _ z0
      have z1 := at4 _ _ z1
      have z2 := at4 _ _ z2
      have z3 := at4 _ _ z3
      have hg1r : g1 < wr.heap.size := by have := hbr.size; omega
      have HC : Hid (Calls Tryd.prog 12 #[.agg #[.bool r.nt, .bool r.dr, .bool r.fx, .string r.pt]] wr.drew fun e w' => e = .returned (.agg #[.bool r.nt, .bool r.dr, .bool r.fx, .string r.pt]) ∧ Below wr.heap.size wr.drew w') := lawRule_any r wr.drew
      have HBR := hide hbr
      clear hx1 hx4 hr e1 e4 at1 at4 hbr
      go_wp2
      refine (fun (KEY : ∀ (w6 : World), Below wr.heap.size wr w6 → (?G : World → Prop) w6) => ?main) ?key
      case main =>
        go_region_law (refine step_calls rfl 12 #[.tmp 24] #[38] rfl #[.agg #[.bool r.nt, .bool r.dr, .bool r.fx, .string r.pt]] (by simp only [List.map_toArray, List.map_cons, List.map_nil]; rfl) (enters_of Tryd.func12 (by kernel_rfl) rfl) (unhide HC) ?_; rintro e w6 ⟨rfl, hb6'⟩; refine ⟨_, rfl, ?_⟩; have hb6 : Below wr.heap.size wr w6 := ⟨hb6'.os, hb6'.tape, hb6'.output, hb6'.size, hb6'.block⟩; have x0 : w6.cell? ⟨g1, k * 4, none⟩ = some (.bool r.nt) := (hb6.cell (p := ⟨g1, k * 4, none⟩) hg1r).trans y0; have x1 : w6.cell? ⟨g1, k * 4 + 1, none⟩ = some (.bool r.dr) := (hb6.cell (p := ⟨g1, k * 4 + 1, none⟩) hg1r).trans y1; have x2 : w6.cell? ⟨g1, k * 4 + 2, none⟩ = some (.bool r.fx) := (hb6.cell (p := ⟨g1, k * 4 + 2, none⟩) hg1r).trans y2; have x3 : w6.cell? ⟨g1, k * 4 + 3, none⟩ = some (.string r.pt) := (hb6.cell (p := ⟨g1, k * 4 + 3, none⟩) hg1r).trans y3)
        all_goals exact KEY w6 hb6
      case key =>
        intro w6 hb6
        go_wp2
        go_roundw
        case rel => exact ⟨k + 1, by omega, by go_num, HBR.out.trans (hb6.mono HBR.out.size)⟩
        case measure => simp [intOf]; omega
    · obtain rfl : k = rs.length := by omega
      go_wp2
      go_ret
      exact ⟨rfl, hbr⟩
end Go.Proofs.YtoebmpllckpjlaaDoor
