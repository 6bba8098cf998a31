/- The reference's lineOf, as far as going through a tree asks. -/
import Derived.Test.YtehbjabneocflaaDoorFields
namespace Go.Proofs.YtehbjabneocflaaDoor
open Go.RowKit

theorem piece_le (c : UInt8) (l : List UInt8) : ∀ p ∈ splitL c l, p.length ≤ l.length := by
  induction l with
  | nil => intro p hp; simp [splitL] at hp; subst hp; simp
  | cons x r ih =>
    intro p hp
    by_cases h : x = c
    · subst h
      rw [split_same] at hp
      simp at hp
      rcases hp with rfl | hp
      · simp
      · have := ih p hp; simp; omega
    · obtain ⟨q, qs, e1, e2⟩ := split_other c x r h
      rw [e2] at hp
      rw [e1] at ih
      simp at hp
      rcases hp with rfl | hp
      · have := ih q (by simp); simp; omega
      · have := ih p (by simp [hp]); simp; omega
theorem cutS_le (c : UInt8) (s : ByteArray) : ∀ p ∈ cutS c s, p.size ≤ s.size := by
  intro p hp
  unfold cutS at hp
  obtain ⟨q, hq, rfl⟩ := List.mem_map.1 hp
  have := piece_le c s.data.toList q hq
  rw [← size_list, ← size_list s]
  exact this
theorem cutS_ne' (c : UInt8) (s : ByteArray) : cutS c s ≠ [] := by
  unfold cutS; simp [split_ne]

theorem below7 {B b : Nat} {w W : World} {x0 x1 x2 x3 x4 x5 x6 : Value} (h : Below B w W) (hb : B ≤ b) : Below B w (((((((W.setCell ⟨b, 0, none⟩ x0).setCell ⟨b, 1, none⟩ x1).setCell ⟨b, 2, none⟩ x2).setCell ⟨b, 3, none⟩ x3).setCell ⟨b, 4, none⟩ x4).setCell ⟨b, 5, none⟩ x5).setCell ⟨b, 6, none⟩ x6) :=
  (((((((h.setCell (p := ⟨b, 0, none⟩) hb x0).setCell (p := ⟨b, 1, none⟩) hb x1).setCell (p := ⟨b, 2, none⟩) hb x2).setCell (p := ⟨b, 3, none⟩) hb x3).setCell (p := ⟨b, 4, none⟩) hb x4).setCell (p := ⟨b, 5, none⟩) hb x5).setCell (p := ⟨b, 6, none⟩) hb x6)
theorem set_grown (W : World) (b i : Nat) (v : Value) : W.grownBy (W.setCell ⟨b, i, none⟩ v) (some b) := by
  refine ⟨rfl, rfl, rfl, by simp, fun k hk hne => ?_⟩
  have hkb : b ≠ k := fun e => hne (by rw [e])
  show (W.heap.modify b _)[k]? = _
  rw [Array.getElem?_modify, if_neg hkb]
theorem StrRow.wider {C C' : Nat} {W : World} {v : Value} {xs : List ByteArray} (h : StrRow C W v xs) (hC : C ≤ C') : StrRow C' W v xs := by
  rcases h with h | ⟨g, cap, e, hg, r⟩
  · exact .inl h
  · exact .inr ⟨g, cap, e, by omega, r⟩
theorem StrRow.set {C b i g n cap : Nat} {W : World} {u : Value} {xs : List ByteArray} (h : StrRow C W (.slice (some ⟨g, 0, none⟩) n cap) xs) (hne : g ≠ b) : StrRow C (W.setCell ⟨b, i, none⟩ u) (.slice (some ⟨g, 0, none⟩) n cap) xs := by
  rcases h with ⟨e, _⟩ | ⟨g', cap', e, hg, hc, hx⟩
  · cases e
  · cases e
    exact .inr ⟨g, cap, rfl, hg, hc, fun j x hj => (set_grown W b i u).cell (a := ⟨g, j, none⟩) (hx j x hj) (fun e => hne (Option.some.inj e))⟩
def LinePost (w : World) (e : Ending) (w' : World) : Prop :=
  ∃ (nd : NodeD) (nv : Value) (ok : Bool), e = .returned (.tuple #[.agg #[.int .u8 nd.kind, .string nd.name, .int .i64 nd.up, .int .i64 nd.size, .int .i64 nd.time, .string nd.text, .slice none 0 0], nv, .bool ok]) ∧ nd.text.size ≤ 20000 ∧
    (ok = true → ∃ names : List ByteArray, names ≠ [] ∧ names.length ≤ 20001 ∧ StrRow w'.heap.size w' nv names) ∧ Below w.heap.size w w'
theorem line_no {w w' : World} (hb : Below w.heap.size w w') : LinePost w (.returned (.tuple #[.agg #[.int .u8 0, .string ⟨#[]⟩, .int .i64 0, .int .i64 0, .int .i64 0, .string ⟨#[]⟩, .slice none 0 0], .slice none 0 0, .bool false])) w' :=
  ⟨⟨0, ⟨#[]⟩, 0, 0, 0, ⟨#[]⟩, []⟩, _, _, rfl, Nat.zero_le _, (fun h => by cases h), hb⟩

set_option maxRecDepth 100000 in
set_option maxHeartbeats 2000000 in
theorem line_any (s : ByteArray) (w : World) (hs : s.size ≤ 20000) :
    Calls Tryd.prog 25 #[.string s] w (LinePost w) := by
  have hl9 := cutS_length 9 s
  have hp9 := cutS_le 9 s
  go_enter Tryd.func25, Tryd.ntmps25
  go_wp2_with fail
  obtain ⟨W0, hW0⟩ : ∃ W0, w.alloc (.cells #[.int .u8 0, .string ⟨#[]⟩, .int .i64 0, .int .i64 0, .int .i64 0, .string ⟨#[]⟩, .slice none 0 0] 44) = W0 := ⟨_, rfl⟩
  rw [hW0]
  have hbx0 : BoxN W0 w.heap.size 0 ⟨#[]⟩ 0 0 0 ⟨#[]⟩ (.slice none 0 0) := by rw [← hW0]; exact World.alloc_heap_new w _
  have hbl0 : Below w.heap.size w W0 := by rw [← hW0]; exact (Below.refl _ _).alloc (Nat.le_refl _) _
  clear hW0
  refine (cut_any 9 s _ (by omega)).mono ?_
  rintro e w1 ⟨v1, rfl, hown1, hb1⟩
  have hbx1 := hbx0.below hb1 hbx0.lt
  have hB1 : Below w.heap.size w w1 := hbl0.trans (hb1.mono hbl0.size)
  obtain ⟨g1, cap1, rfl, hg1, hcap1, hx1⟩ := (StrRow.of_owns hown1).more (cutS_ne' 9 s)
  obtain ⟨b0, b1, b2, b3, b4, b5, b6, bf⟩ := hbx1.cells
  clear hown1 hb1 hbx0 hbl0
  obtain ⟨cs, hcs⟩ : ∃ cs, cs = cutS 9 s := ⟨_, rfl⟩
  rw [← hcs] at hl9 hp9 hx1 hcap1 ⊢
  clear hcs
  by_cases h2 : cs.length < 2
  · have h2' : (cs.length : Int) < 2 := by omega
    have f0 := bf 0; have f1 := bf 1; have f2 := bf 2; have f3 := bf 3; have f4 := bf 4; have f5 := bf 5; have f6 := bf 6
    clear hp9 hx1 bf
    go_wp2
    refine bodyPost_ret (v := .tuple #[.agg #[.int .u8 0, .string ⟨#[]⟩, .int .i64 0, .int .i64 0, .int .i64 0, .string ⟨#[]⟩, .slice none 0 0], .slice none 0 0, .bool false]) (by simp [results, Tryd.results25, go_sem, b0, b1, b2, b3, b4, b5, b6]) rfl (line_no (below7 hB1 (Nat.le_refl _)))
  · obtain ⟨y0, hy0⟩ : ∃ y, cs[0]? = some y := ⟨_, List.getElem?_eq_getElem (by omega)⟩
    obtain ⟨y1, hy1⟩ : ∃ y, cs[1]? = some y := ⟨_, List.getElem?_eq_getElem (by omega)⟩
    have x0 := hx1 0 y0 hy0
    have x1 := hx1 1 y1 hy1
    have z1 := hp9 y1 (List.mem_of_getElem? hy1)
    have h2' : ¬ (cs.length : Int) < 2 := by omega
    by_cases hy : y0.size = 1
    · have hyb : ((y0.size : Int) != 1) = false := by rw [bne_eq_false_iff_eq]; omega
      have hl47 := cutS_length 47 y1
      have HX1 := hide hx1
      have HP9 := hide hp9
      have HBF := hide bf
      have HBX1 := hide hbx1
      have HB1 := hide hB1
      clear hx1 hp9 bf hy0 hy1 hbx1 hB1
      go_wp2_with fail
      refine (cut_any 47 y1 _ (by omega)).mono ?_
      rintro e w2 ⟨v2, rfl, hown2, hb2⟩
      have hbx2 := (unhide HBX1).below hb2 (unhide HBX1).lt
      have hsz1 := (unhide HB1).size
      have HB2 : Hid (Below w.heap.size w w2) := (unhide HB1).trans (hb2.mono hsz1)
      obtain ⟨g2, cap2, rfl, hg2, hcap2, hx2⟩ := (StrRow.of_owns hown2).more (cutS_ne' 47 y1)
      have hg2b := (hown2.lt g2 rfl).1
      obtain ⟨e0, e1, e2, e3, e4, e5, e6, ef⟩ := hbx2.cells
      have k0 : w2.cell? ⟨g1, 0, none⟩ = some (.string y0) := (hb2.cell (p := ⟨g1, 0, none⟩) hg1).trans x0
      obtain ⟨ns, hns⟩ : ∃ ns, ns = cutS 47 y1 := ⟨_, rfl⟩
      have hne : ns ≠ [] := by rw [hns]; exact cutS_ne' 47 y1
      have hpn : ∀ x ∈ ns, x.size ≤ y1.size := by rw [hns]; exact cutS_le 47 y1
      rw [← hns] at hl47 hx2 hcap2 ⊢
      have hnl : 1 ≤ ns.length := by
        cases ns with
        | nil => exact absurd rfl hne
        | cons a b => simp
      have HROW : Hid (StrRow w2.heap.size w2 (.slice (some ⟨g2, 0, none⟩) ns.length cap2) ns) := .inr ⟨g2, cap2, rfl, hg2, hcap2, hx2⟩
      clear b0 b1 b2 b3 b4 b5 b6 hns hown2 x0 x1
      have f0 := ef 0; have f1 := ef 1; have f2 := ef 2; have f3 := ef 3; have f4 := ef 4; have f5 := ef 5; have f6 := ef 6
      clear ef
      have HX12 : Hid (∀ (j : Nat) (x : ByteArray), cs[j]? = some x → w2.cell? ⟨g1, j, none⟩ = some (.string x)) := fun j x hj => (hb2.cell (p := ⟨g1, j, none⟩) hg1).trans ((unhide HX1) j x hj)
      have HX2 := hide hx2
      have HPN := hide hpn
      have HB21 := hide hb2
      have HBX2 := hide hbx2
      clear hx2 hpn hb2 hbx2 hne
      go_wp2
      go_loop [7] (fun iv => ∃ k : Nat, k ≤ ns.length ∧ iv = .int .i64 k) (fun iv => ns.length - (intOf iv).toNat)
      case atStart => exact ⟨0, Nat.zero_le _, rfl⟩
      case round =>
        obtain ⟨k, hk, rfl⟩ := hrel
        by_cases hlt : k < ns.length
        · obtain ⟨nm, hnm⟩ : ∃ nm, ns[k]? = some nm := ⟨_, List.getElem?_eq_getElem hlt⟩
          have ck := (unhide HX2) k nm hnm
          have zk := (unhide HPN) nm (List.mem_of_getElem? hnm)
          clear hnm
          go_wp2_with fail
          refine (isName_any nm _ (by omega)).mono ?_
          rintro e w' ⟨⟨bb, rfl⟩, rfl⟩
          cases bb
          · go_wp2
            refine bodyPost_ret (v := .tuple #[.agg #[.int .u8 0, .string ⟨#[]⟩, .int .i64 0, .int .i64 0, .int .i64 0, .string ⟨#[]⟩, .slice none 0 0], .slice none 0 0, .bool false]) (by simp [results, Tryd.results25, go_sem, e0, e1, e2, e3, e4, e5, e6]) rfl (line_no (below7 (unhide HB2) (Nat.le_refl _)))
          · go_wp2
            go_round
            case rel => exact ⟨k + 1, by omega, by go_num⟩
            case measure => simp [intOf]; omega
        · obtain rfl : k = ns.length := by omega
          obtain ⟨nm, hnm⟩ : ∃ nm, ns[ns.length - 1]? = some nm := ⟨_, List.getElem?_eq_getElem (by omega)⟩
          have ck := (unhide HX2) _ nm hnm
          clear hnm
          have q1 : g1 < w2.heap.size := by have := (unhide HB21).size; omega
          have q2 : (1 : Int) ≤ (ns.length : Int) := by omega
          have q3 : (ns.length : Int) ≤ 20001 := by omega
          have q4 : (0 : Nat) < y0.size := by omega
          have q5 : w.heap.size < w2.heap.size := (unhide HBX2).lt
          have q6 : w.heap.size < g2 := by have := (unhide HBX1).lt; omega
          have HF : ∀ (W3 : World) (off cp : Nat) (ys : List ByteArray), W3.heap.size = w2.heap.size + 1 → BoxN W3 w2.heap.size (y0[0].toNat : Int) nm 0 0 0 ⟨#[]⟩ (.slice none 0 0) → Below w2.heap.size w2 W3 → (∀ (j : Nat) (x : ByteArray), ys[j]? = some x → w2.cell? ⟨g1, off + j, none⟩ = some (.string x)) → (∀ x ∈ ys, x.size ≤ 20000) → ys.length ≤ 1000000 → Calls Tryd.prog 39 #[.pointer (some ⟨w2.heap.size, 0, none⟩), .slice (some ⟨g1, off, none⟩) ys.length cp] W3 (FieldsPost w2.heap.size nm 0 (.slice none 0 0) W3) :=
            fun W3 off cp ys _ hb3 hbl3 hy hsz hl => fields_any w2.heap.size g1 off cp ys _ nm 0 0 0 _ _ W3 hb3 (Nat.zero_le _) q1 (fun j x hj => (hbl3.cell (p := ⟨g1, off + j, none⟩) q1).trans (hy j x hj)) hsz hl
          have HFF := hide HF
          clear HF
          by_cases hcap : cap1 = 2
          · subst hcap
            go_wp2
            go_region
            go_wp2_with fail
            obtain ⟨W3, hW3⟩ : ∃ W3, (w2.alloc (.cells #[.int .u8 (y0[0].toNat : Int), .string nm, .int .i64 0, .int .i64 0, .int .i64 0, .string ⟨#[]⟩, .slice none 0 0] 44)).drew = W3 := ⟨_, rfl⟩
            rw [hW3]
            have hs3 : W3.heap.size = w2.heap.size + 1 := by rw [← hW3]; simp
            have hbx3 : BoxN W3 w2.heap.size (y0[0].toNat : Int) nm 0 0 0 ⟨#[]⟩ (.slice none 0 0) := by rw [← hW3]; exact World.alloc_heap_new w2 _
            have hbl3 : Below w2.heap.size w2 W3 := by rw [← hW3]; exact ((Below.refl _ _).alloc (Nat.le_refl _) _).drew
            have HF2 := (unhide HFF) W3 0 0 [] hs3 hbx3 hbl3 (fun j x hj => by simp at hj) (fun x hx => by cases hx) (by simp)
            rw [List.length_nil] at HF2
            refine HF2.mono ?_
            rintro e w4 ⟨ok, kk, sz, tm, tx, rfl, hbx4, ht4, hb4⟩
            have hbr4 := ((unhide HBX2).below hbl3 q5).below hb4 q5
            obtain ⟨n0, n1, n2, n3, n4, n5, n6, _⟩ := hbx4.cells
            obtain ⟨r0, r1, r2, r3, r4, r5, r6, rf⟩ := hbr4.cells
            have rf0 := rf 0; have rf1 := rf 1; have rf2 := rf 2; have rf3 := rf 3; have rf4 := rf 4; have rf5 := rf 5; have rf6 := rf 6
            have HROW4 : Hid (StrRow w4.heap.size w4 (.slice (some ⟨g2, 0, none⟩) ns.length cap2) ns) := ((((unhide HROW).below hbl3).below hb4).wider (by have := hbx4.lt; omega))
            have HB4 : Hid (Below w.heap.size w w4) := ((unhide HB2).trans (hbl3.mono (by omega))).trans (hb4.mono (by omega))
            clear hW3 hs3 hbx3 hbl3 HF2 hb4 hbr4 rf e0 e1 e2 e3 e4 e5 e6 f0 f1 f2 f3 f4 f5 f6
            go_wp2
            refine bodyPost_ret (v := .tuple #[.agg #[.int .u8 kk, .string nm, .int .i64 0, .int .i64 sz, .int .i64 tm, .string tx, .slice none 0 0], .slice (some ⟨g2, 0, none⟩) ns.length cap2, .bool ok]) (by simp [results, Tryd.results25, go_sem, r0, r1, r2, r3, r4, r5, r6]) rfl ?_
            refine ⟨⟨kk, nm, 0, sz, tm, tx, []⟩, _, ok, rfl, ht4, fun _ => ⟨ns, by intro e; rw [e] at hnl; simp at hnl, by omega, ?_⟩, below7 (unhide HB4) (Nat.le_refl _)⟩
            have hne2 : g2 ≠ w.heap.size := by omega
            have := ((((((((unhide HROW4).set (i := 0) (u := .int .u8 kk) hne2).set (i := 1) (u := .string nm) hne2).set (i := 2) (u := .int .i64 0) hne2).set (i := 3) (u := .int .i64 sz) hne2).set (i := 4) (u := .int .i64 tm) hne2).set (i := 5) (u := .string tx) hne2).set (i := 6) (u := .slice none 0 0) hne2)
            exact this.wider (by simp)
          · have hcc : 2 < cap1 := by omega
            go_wp2
            go_region
            go_wp2_with fail
            obtain ⟨W3, hW3⟩ : ∃ W3, (w2.alloc (.cells #[.int .u8 (y0[0].toNat : Int), .string nm, .int .i64 0, .int .i64 0, .int .i64 0, .string ⟨#[]⟩, .slice none 0 0] 44)).drew = W3 := ⟨_, rfl⟩
            rw [hW3]
            have hs3 : W3.heap.size = w2.heap.size + 1 := by rw [← hW3]; simp
            have hbx3 : BoxN W3 w2.heap.size (y0[0].toNat : Int) nm 0 0 0 ⟨#[]⟩ (.slice none 0 0) := by rw [← hW3]; exact World.alloc_heap_new w2 _
            have hbl3 : Below w2.heap.size w2 W3 := by rw [← hW3]; exact ((Below.refl _ _).alloc (Nat.le_refl _) _).drew
            have HF2 := (unhide HFF) W3 2 (cap1 - 2) (cs.drop 2) hs3 hbx3 hbl3 (fun j x hj => (unhide HX12) (2 + j) x (by rw [List.getElem?_drop] at hj; exact hj)) (fun x hx => Nat.le_trans ((unhide HP9) x (List.mem_of_mem_drop hx)) hs) (by rw [List.length_drop]; omega)
            rw [List.length_drop] at HF2
            refine HF2.mono ?_
            rintro e w4 ⟨ok, kk, sz, tm, tx, rfl, hbx4, ht4, hb4⟩
            have hbr4 := ((unhide HBX2).below hbl3 q5).below hb4 q5
            obtain ⟨n0, n1, n2, n3, n4, n5, n6, _⟩ := hbx4.cells
            obtain ⟨r0, r1, r2, r3, r4, r5, r6, rf⟩ := hbr4.cells
            have rf0 := rf 0; have rf1 := rf 1; have rf2 := rf 2; have rf3 := rf 3; have rf4 := rf 4; have rf5 := rf 5; have rf6 := rf 6
            have HROW4 : Hid (StrRow w4.heap.size w4 (.slice (some ⟨g2, 0, none⟩) ns.length cap2) ns) := ((((unhide HROW).below hbl3).below hb4).wider (by have := hbx4.lt; omega))
            have HB4 : Hid (Below w.heap.size w w4) := ((unhide HB2).trans (hbl3.mono (by omega))).trans (hb4.mono (by omega))
            clear hW3 hs3 hbx3 hbl3 HF2 hb4 hbr4 rf e0 e1 e2 e3 e4 e5 e6 f0 f1 f2 f3 f4 f5 f6
            go_wp2
            refine bodyPost_ret (v := .tuple #[.agg #[.int .u8 kk, .string nm, .int .i64 0, .int .i64 sz, .int .i64 tm, .string tx, .slice none 0 0], .slice (some ⟨g2, 0, none⟩) ns.length cap2, .bool ok]) (by simp [results, Tryd.results25, go_sem, r0, r1, r2, r3, r4, r5, r6]) rfl ?_
            refine ⟨⟨kk, nm, 0, sz, tm, tx, []⟩, _, ok, rfl, ht4, fun _ => ⟨ns, by intro e; rw [e] at hnl; simp at hnl, by omega, ?_⟩, below7 (unhide HB4) (Nat.le_refl _)⟩
            have hne2 : g2 ≠ w.heap.size := by omega
            have := ((((((((unhide HROW4).set (i := 0) (u := .int .u8 kk) hne2).set (i := 1) (u := .string nm) hne2).set (i := 2) (u := .int .i64 0) hne2).set (i := 3) (u := .int .i64 sz) hne2).set (i := 4) (u := .int .i64 tm) hne2).set (i := 5) (u := .string tx) hne2).set (i := 6) (u := .slice none 0 0) hne2)
            exact this.wider (by simp)
    · have hyb : ((y0.size : Int) != 1) = true := by rw [bne_iff_ne]; omega
      have f0 := bf 0; have f1 := bf 1; have f2 := bf 2; have f3 := bf 3; have f4 := bf 4; have f5 := bf 5; have f6 := bf 6
      clear hp9 hx1 bf hy0 hy1
      go_wp2
      refine bodyPost_ret (v := .tuple #[.agg #[.int .u8 0, .string ⟨#[]⟩, .int .i64 0, .int .i64 0, .int .i64 0, .string ⟨#[]⟩, .slice none 0 0], .slice none 0 0, .bool false]) (by simp [results, Tryd.results25, go_sem, b0, b1, b2, b3, b4, b5, b6]) rfl (line_no (below7 hB1 (Nat.le_refl _)))
end Go.Proofs.YtehbjabneocflaaDoor
