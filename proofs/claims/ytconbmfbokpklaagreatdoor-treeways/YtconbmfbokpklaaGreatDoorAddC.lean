/- One line more: the walk. -/
import Derived.Test.YtconbmfbokpklaaGreatDoorGAdd
import Derived.Deep.RegionLaw
import Derived.Deep.AppendLies
namespace Go.Proofs.YtconbmfbokpklaaGreatDoor
open Go.RowKit Go.Maps

theorem own_not_box {B n m g cap c bm br : Nat} {W : World} {t : TypeId} {size : Nat} {xs : List Value} {v : Value} (h : W.ownsRow B t size (.slice (some ⟨g, 0, none⟩) m cap) n xs) (hb : BoxB W c v bm br) (ht : t ≠ 54 := by decide) : g ≠ c := by
  intro e
  subst e
  rcases h.2 with ⟨e, _⟩ | ⟨g', cap', cur, e, _, hg, _⟩
  · cases e
  · cases e
    unfold BoxB at hb
    rw [hb] at hg
    cases hg
    exact ht rfl
theorem Tryz.field80 (n : Int) (b : Bool) (w : World) : (Instr.field 80 (.agg #[.int .i64 n, .bool b]) 0).run Tryz.prog w = .ok (.int .i64 n) w := by kernel_rfl
set_option maxHeartbeats 4000000 in
set_option maxRecDepth 100000 in
theorem add_any {C : Nat} {A : Ads} (c bm br : Nat) (v : Value) (l : List (NodeD × Value)) (K : List ByteArray) (line : ByteArray) (ended : Bool) (w : World) (hI : BInv C w c v bm br l K) (hs : Sent C A w) (hC : C ≤ w.heap.size) (hline : line.size ≤ 20000) (hl1 : 1 ≤ l.length) (hl2 : l.length ≤ 100000) (hKl : K.length = l.length) (hkl : ∀ p ∈ l, p.1.kids.length ≤ l.length) :
    Calls Tryz.prog 19 #[.pointer (some ⟨c, 0, none⟩), .string line, .bool ended] w (AddPost C A c (addR (l.map (·.1)) K line ended) w) := by
  have HRD := hide (read_any (A := A) c bm br v line w hI.box hI.rd hs hC hline)
  have hcl : c < w.heap.size := (Array.getElem?_eq_some_iff.1 hI.box).1
  have HI := hide hI
  have HS := hide hs
  clear hI hs
  go_enter Tryz.func19, Tryz.ntmps19
  go_wp2_with fail
  refine (unhide HRD).mono ?_
  rintro e w1 ⟨p, k, sz, tm, tx, way, rfl, hpo, hcase, hway, hb1⟩
  have HPO := hide hpo
  have HCA := hide hcase
  have HB1 := hide hb1
  clear hpo hcase hb1
  go_wp2_with fail
  have hpo := unhide HPO
  have hb1 := unhide HB1
  obtain ⟨W2, hW2⟩ : ∃ W2, w1.alloc (.cells #[.int .u8 k, .string (bs []), .int .i64 0, .int .i64 sz, .int .i64 tm, .string tx, .slice none 0 0] 33) = W2 := ⟨_, rfl⟩
  rw [hW2]
  have hb12 : Below w1.heap.size w1 W2 := by rw [← hW2]; exact (Below.refl _ _).alloc (Nat.le_refl _) _
  have hbx2 : BoxP W2 w1.heap.size k (bs []) 0 sz tm tx (.slice none 0 0) := by rw [← hW2]; exact alloc_self _ _
  have hI2 := ((unhide HI).below hb1).below hb12
  have hbs := hb1.size
  have hs2 := ((unhide HS).below (hb1.mono hC)).below (hb12.mono (by omega))
  have hlt2 := hbx2.lt
  have hC2 : C ≤ W2.heap.size := by omega
  have hpo2 := hpo.below hb12
  have HUP := hide (upOf_any way W2 (by omega))
  have HCE := hide (checkEnd_any ended W2 hs2)
  obtain ⟨g, cap, rfl⟩ : ∃ g cap, v = .slice (some ⟨g, 0, none⟩) l.length cap := by
    rcases hI2.own.1.2 with ⟨_, h2⟩ | ⟨g, cap, cur, e, _⟩
    · omega
    · exact ⟨g, cap, e⟩
  have HCR := hide (checkRoom_any (A := A) c bm br l.length cap _ W2 hI2.box hs2 (by omega))
  have HSP := hide (checkSpot_any (A := A) c bm br _ (l.map (·.1)) K (upS way) way W2 hI2.box hI2.spots hs2 hC2 (by have := up_size way; omega) (by omega))
  have HPO2 := hide hpo2
  have HB12 := hide hb12
  have HBX2 := hide hbx2
  have HI2 := hide hI2
  have HS2 := hide hs2
  clear hpo hpo2 hb1 hb12 hI2 hs2 hbx2 hlt2 hC2 hbs hW2
  refine (unhide HUP).mono ?_
  rintro e w' ⟨rfl, rfl⟩
  obtain ⟨p1, hp1⟩ : ∃ p1, leafE A.t ended = p1 := ⟨_, rfl⟩
  obtain ⟨p2, hp2⟩ : ∃ p2, leafE A.m (decide (l.length ≤ 200)) = p2 := ⟨_, rfl⟩
  obtain ⟨p3, hp3⟩ : ∃ p3, spotP A (l.map (·.1)) K (upS way) way = p3 := ⟨_, rfl⟩
  unfold LeafPost at HCE HCR
  rw [hp1] at HCE
  rw [hp2] at HCR
  rw [hp3] at HSP
  have o1 : OErr w' p1 := by rw [← hp1]; exact leaf_O (unhide HS2).pt _
  have o2 : OErr w' p2 := by rw [← hp2]; exact leaf_O (unhide HS2).pm _
  have o3 : OErr w' p3 := by rw [← hp3]; exact spotP_O (unhide HS2) _ _ _ _
  have c0 := cells_O (unhide HPO2)
  have c1 := cells_O o1
  have c2 := cells_O o2
  have c3 := cells_O o3
  have HO1 := hide o1
  have HO2 := hide o2
  have HO3 := hide o3
  have HP1 := hide hp1
  have HP2 := hide hp2
  have HP3 := hide hp3
  clear o1 o2 o3 hp1 hp2 hp3
  go_wp2_with (first | (go_at_call 40; refine (unhide HCE).mono ?_; rintro e w' ⟨rfl, rfl⟩) | (go_at_call 41; refine (unhide HCR).mono ?_; rintro e w' ⟨rfl, rfl⟩) | (go_at_call 42; refine (unhide HSP).mono ?_; rintro e w3 ⟨rfl, hb3⟩) | (show wpList _ _ _ (Oper.mk _ (Op.buildSlice _ _ _) _ _ _ _ :: _) _ _; refine build4 rfl _ _ _ _ rfl _ _ _ _ rfl rfl rfl rfl c0 c1 c2 c3 ?_))
  have hs3 := hb3.size
  refine (join4 p p1 p2 p3 w3 ((unhide HPO2).below hb3) ((unhide HO1).below hb3) ((unhide HO2).below hb3) ((unhide HO3).below hb3)).mono ?_
  rintro e w4 ⟨v4, rfl, x, rfl, hxo, hx2, hxn, hb4⟩
  have HB4 : Hid (Below w'.heap.size w' w4) := hb3.trans (hb4.mono hs3)
  have HBC : Hid (Below C w w4) := (((unhide HB1).mono hC).trans ((unhide HB12).mono (by have := (unhide HB1).size; omega))).trans ((unhide HB4).mono (by have := (unhide HB1).size; have := (unhide HB12).size; omega))
  rcases hxo with hx | ⟨t, pv, hx1, herr⟩
  · obtain rfl := hx
    have hlenL : (l.map (·.1)).length = l.length := List.length_map _
    obtain ⟨hline2, hend, hL200, a, d, hla, hda, hdd, hlw⟩ := all_none (L := l.map (·.1)) (K := K) (ended := ended) HCA.out (by rw [hlenL, HP1.out, HP2.out, HP3.out, ← hxn]; rfl)
    have HLW := hide hlw
    have HYES := hide (addR_yes hline2 hend hL200 hla hda hdd hlw)
    have hnm := base_way (lineD_names hline2)
    have hnm2 : baseS way = lastS way := hnm
    have hbw4 : Below w.heap.size w w4 := ((unhide HB1).trans ((unhide HB12).mono (unhide HB1).size)).trans ((unhide HB4).mono (by have := (unhide HB1).size; have := (unhide HB12).size; omega))
    have hsz1 := (unhide HB1).size
    have hI4 := (unhide HI).below hbw4
    have hbx4 := (unhide HBX2).below (unhide HB4) (unhide HBX2).lt
    have hblt := hbx4.lt
    obtain ⟨n0, n1, n2, n3, n4, n5, n6, nf⟩ := hbx4.cells
    have nf1 := nf 1
    have nf2 := nf 2
    obtain ⟨b0, b1, b2, bf⟩ := hI4.box.cells
    have bf0 := bf 0
    have HBA := hide (base_any way w4 (by omega))
    rw [hnm2] at HBA
    have hbw5 : Below w.heap.size w (w4.setCell ⟨w1.heap.size, 1, none⟩ (.string (lastS way))) := hbw4.setCell (p := ⟨w1.heap.size, 1, none⟩) hsz1 _
    obtain ⟨sv, _, hlk, sn, sd, rfl, hsv⟩ := sp_look ((unhide HI).below hbw5).spots (upS way) (by have := up_size way; unfold maxLen; omega)
    obtain ⟨rfl, d2, hd2, rfl⟩ := hsv a hla
    have hcb : c ≠ w1.heap.size := by omega
    have hfld := Tryz.field80
    have HI4 := hide hI4
    have HBX4 := hide hbx4
    have HBW4 := hide hbw4
    clear hx2 hxn hb4 hb3 c0 c1 c2 c3 HCE HCR HSP HRD HUP hline2 hlw hla hnm hnm2 bf nf hI4 hbx4 hbw4 hbw5 hsv HP1 HP2 HP3 HO1 HO2 HO3 HPO HPO2 HCA
    go_wp2_with (go_at_call 43; refine (unhide HBA).mono ?_; rintro e wz ⟨rfl, hwz⟩; have hwz := hwz.symm; subst hwz)
    obtain ⟨W5, hW5⟩ : ∃ W5, (w4.setCell ⟨w1.heap.size, 1, none⟩ (.string (lastS way))).setCell ⟨w1.heap.size, 2, none⟩ (.int .i64 (a : Int)) = W5 := ⟨_, rfl⟩
    rw [hW5]
    have hbx5 : BoxP W5 w1.heap.size k (lastS way) (a : Int) sz tm tx (.slice none 0 0) := by rw [← hW5]; exact ((unhide HBX4).set1 _).set2 _
    have hbw5 : Below w.heap.size w W5 := by rw [← hW5]; exact ((unhide HBW4).setCell (p := ⟨w1.heap.size, 1, none⟩) hsz1 _).setCell (p := ⟨w1.heap.size, 2, none⟩) hsz1 _
    have hI5 := (unhide HI).below hbw5
    have hz5 : W5.heap.size = w4.heap.size := by rw [← hW5]; simp
    clear hW5 n0 n1 n2 n3 n4 n5 n6 nf1 nf2 b0 b1 b2 bf0 hlk HBA HI4 HBX4
    obtain ⟨n0, n1, n2, n3, n4, n5, n6, nf⟩ := hbx5.cells
    obtain ⟨b0, b1, b2, bf⟩ := hI5.box.cells
    have bf0 := bf 0
    obtain ⟨i0, hi, hz0, hz1, hz2⟩ := info_parts Tryz.info33
    have HW : Hid (∀ (o : Obj), (W5.alloc o).drew.ownsRow C 33 7 (.slice (some ⟨g, 0, none⟩) l.length cap) l.length (cellsL l)) := fun o => hI5.own.1.alloc o
    have HN : Hid (∀ (j : Nat) (u : Value), [Value.int .u8 k, .string (lastS way), .int .i64 (a : Int), .int .i64 sz, .int .i64 tm, .string tx, .slice none 0 0][j]? = some u → ((W5.alloc (.cells #[.int .u8 k, .string (lastS way), .int .i64 (a : Int), .int .i64 sz, .int .i64 tm, .string tx, .slice none 0 0] 33)).drew).cell? ((⟨W5.heap.size, 0, none⟩ : Addr).add j) = some u) := World.news_of_block (cs := #[.int .u8 k, .string (lastS way), .int .i64 (a : Int), .int .i64 sz, .int .i64 tm, .string tx, .slice none 0 0]) (World.alloc_heap_new W5 _)
    have hcl5 : c < W5.heap.size := by omega
    have hbl5 : w1.heap.size < W5.heap.size := by omega
    have hgl : g < w.heap.size := ((unhide HI).own.1.lt g rfl).2
    have hCg : C ≤ g := ((unhide HI).own.1.lt g rfl).1
    have hgc : g ≠ c := own_not_box (unhide HI).own.1 (unhide HI).box
    have HFAR : Hid (∀ (o : Obj) (w2 : World) (q j : Nat) (z : Value), q < W5.heap.size → q ≠ g → (W5.alloc o).drew.grownBy w2 (some g) → W5.cell? ⟨q, j, none⟩ = some z → w2.cell? ⟨q, j, none⟩ = some z ∧ w2.frozen? ⟨q, j, none⟩ = W5.frozen? ⟨q, j, none⟩) := by
      intro o w2 q j z hq hne hg hz
      have h1 : ((W5.alloc o).drew).cell? ⟨q, j, none⟩ = some z := ((Below.refl W5.heap.size W5).alloc (Nat.le_refl _) o |>.cell (p := ⟨q, j, none⟩) hq).trans hz
      have h2 : ((W5.alloc o).drew).frozen? ⟨q, j, none⟩ = W5.frozen? ⟨q, j, none⟩ := ((Below.refl W5.heap.size W5).alloc (Nat.le_refl _) o |>.frozen (p := ⟨q, j, none⟩) hq)
      exact ⟨(hg.cell_far ⟨q, j, none⟩ (by show q < ((W5.alloc o)).heap.size; simp; omega) (fun e => hne (Option.some.inj e))).trans h1, (hg.frozen_far ⟨q, j, none⟩ (by show q < ((W5.alloc o)).heap.size; simp; omega) (fun e => hne (Option.some.inj e))).trans h2⟩
    have HI5 := hide hI5
    have HBX5 := hide hbx5
    have HBW5 := hide hbw5
    have hCz : C ≤ W5.heap.size := by omega
    clear hI5 hbx5 hbw5 bf nf hz5
    refine (fun (KEY : ∀ (g6 cap6 : Nat) (w6 : World), (w6.ownsRow C 33 7 (.slice (some ⟨g6, 0, none⟩) (l.length + 1) cap6) (l.length + 1) (cellsL l ++ [Value.int .u8 k, .string (lastS way), .int .i64 (a : Int), .int .i64 sz, .int .i64 tm, .string tx, .slice none 0 0]) ∧ (W5.alloc (.cells #[.int .u8 k, .string (lastS way), .int .i64 (a : Int), .int .i64 sz, .int .i64 tm, .string tx, .slice none 0 0] 33)).drew.grownBy w6 (some g) ∧ (some g = some g6 ∨ g6 = W5.heap.size + 1)) → (?G : Nat → Nat → World → Prop) g6 cap6 w6) => ?main) ?key
    case main =>
      go_region_law ((refine step_append_lies _ rfl (.tmp 56) (.tmp 58) 22 rfl C 33 i0 _ 7 88 Tryz.underlying22 hi hz0 hz1 hz2 rfl (by decide) (.slice (some ⟨g, 0, none⟩) l.length cap) l.length (cellsL l) rfl (unhide HW _) ⟨W5.heap.size, 0, none⟩ 1 1 [Value.int .u8 k, .string (lastS way), .int .i64 (a : Int), .int .i64 sz, .int .i64 tm, .string tx, .slice none 0 0] rfl rfl (unhide HN) (by simp [Value.oneCell']) (by decide) (by unfold maxLen; omega) (by omega) (by show _ ≤ (W5.alloc _).heap.size; simp; omega) (W5.heap.size + 1) (by show (W5.alloc _).heap.size = _; simp) ?_; intro g6 cap6 w6 hown6 hg6 hat6 hlt6; obtain ⟨e8, ef8⟩ := unhide HFAR _ _ _ _ _ hcl5 (Ne.symm hgc) hg6 b0; rw [bf0] at ef8; obtain ⟨e0, _⟩ := unhide HFAR _ _ _ _ _ hbl5 (by omega) hg6 n0; obtain ⟨e1, _⟩ := unhide HFAR _ _ _ _ _ hbl5 (by omega) hg6 n1; obtain ⟨e2, _⟩ := unhide HFAR _ _ _ _ _ hbl5 (by omega) hg6 n2; obtain ⟨e3, _⟩ := unhide HFAR _ _ _ _ _ hbl5 (by omega) hg6 n3; obtain ⟨e4, _⟩ := unhide HFAR _ _ _ _ _ hbl5 (by omega) hg6 n4; obtain ⟨e5, _⟩ := unhide HFAR _ _ _ _ _ hbl5 (by omega) hg6 n5; obtain ⟨e6, _⟩ := unhide HFAR _ _ _ _ _ hbl5 (by omega) hg6 n6))
      all_goals exact KEY g6 cap6 w6 ⟨hown6, hg6, hat6⟩
    case key =>
      rintro g6 cap6 w6 ⟨hown6, hg6, hat6⟩
      have hgb : g6 ≠ w1.heap.size := by
        rcases hat6 with e | e
        · have := Option.some.inj e; omega
        · omega
      clear hat6
      obtain ⟨hM, hbx7⟩ := add_mid (unhide HI5) (unhide HBX5) (show w1.heap.size ≠ g by omega) (Ne.symm hcb) hown6 hg6
      have hs6 : W5.heap.size + 1 ≤ w6.heap.size := by have := hg6.size; simpa using this
      have HB67 : Hid (Below C W5 (w6.setCell ⟨c, 0, none⟩ (.slice (some ⟨g6, 0, none⟩) (l.length + 1) cap6))) := ((((Below.refl C W5).alloc hCz _).drew).grown hg6 (by simp; omega) (fun j e => by cases e; exact hCg)).setCell (p := ⟨c, 0, none⟩) (unhide HI).hc _
      obtain ⟨W7, hW7⟩ : ∃ W7, w6.setCell ⟨c, 0, none⟩ (.slice (some ⟨g6, 0, none⟩) (l.length + 1) cap6) = W7 := ⟨_, rfl⟩
      have hs7 : W5.heap.size + 1 ≤ W7.heap.size := by rw [← hW7]; simpa using hs6
      rw [hW7] at hM hbx7 HB67 ⊢
      clear hown6 hg6 hs6 hW7 n0 n1 n2 n3 n4 n5 n6 b0 b1 b2 bf0 HW HN HFAR hi hz0 hz1 hz2
      obtain ⟨q, hq, hqd⟩ : ∃ q, l[a]? = some q ∧ q.1 = d := by
        rw [List.getElem?_map] at hda
        cases e : l[a]? with
        | none => rw [e] at hda; cases hda
        | some q => rw [e] at hda; exact ⟨q, rfl, Option.some.inj hda⟩
      have HQD := hide hqd
      clear hqd
      have hal := (List.getElem?_eq_some_iff.1 hq).1
      have hqm := List.mem_of_getElem? hq
      have hq7 : (l ++ [(ndOf a k sz tm tx (lastS way), Value.slice none 0 0)])[a]? = some q := by rw [List.getElem?_append_left hal]; exact hq
      have h76 : W7.cell? ⟨g6, a * 7 + 6, none⟩ = some q.2 := (hM.own.node (cap := cap6) (by simp) hq7).2.2.2.2.2.2
      have f76 : W7.frozen? ⟨g6, a * 7 + 6, none⟩ = false := own_frozen hM.own.1 _
      have hrow7 := hM.own.2 q (List.mem_of_getElem? hq7)
      obtain ⟨_, _, n2, _⟩ := hbx7.cells
      obtain ⟨b0, b1, _, _⟩ := hM.box.cells
      have hkq := hkl q hqm
      have hc7 : c < W7.heap.size := by omega
      have hbl7 : w1.heap.size < W7.heap.size := by omega
      have hg67 : g6 < W7.heap.size := (hM.own.1.lt g6 rfl).2
      have hno : q.2.ownBlock ≠ some c := own_not_boxV hrow7 hM.box (by decide)
      have hnob : q.2.ownBlock ≠ some w1.heap.size := fun e => by have := ((unhide HI).own.2 q hqm).lt _ e; omega
      have hnog : q.2.ownBlock ≠ some g6 := own_apart hM.own.1 hrow7 (by decide) rfl
      obtain ⟨i3, hi, hz0, hz1, hz2⟩ := info_parts Tryz.info3
      have HW : Hid (∀ (o : Obj), (W7.alloc o).drew.ownsRow C 3 1 q.2 q.1.kids.length (ints q.1.kids)) := fun o => hrow7.alloc o
      have HN : Hid (∀ (j : Nat) (u : Value), [Value.int .i64 (l.length : Int)][j]? = some u → ((W7.alloc (.cells #[.int .i64 (l.length : Int)] 3)).drew).cell? ((⟨W7.heap.size, 0, none⟩ : Addr).add j) = some u) := World.news_of_block (cs := #[.int .i64 (l.length : Int)]) (World.alloc_heap_new W7 _)
      have HFAR : Hid (∀ (o : Obj) (w2 : World) (x j : Nat) (z : Value), x < W7.heap.size → q.2.ownBlock ≠ some x → (W7.alloc o).drew.grownBy w2 q.2.ownBlock → W7.cell? ⟨x, j, none⟩ = some z → w2.cell? ⟨x, j, none⟩ = some z ∧ w2.frozen? ⟨x, j, none⟩ = W7.frozen? ⟨x, j, none⟩) := by
        intro o w2 x j z hx hne hg hz
        have h1 : ((W7.alloc o).drew).cell? ⟨x, j, none⟩ = some z := ((Below.refl W7.heap.size W7).alloc (Nat.le_refl _) o |>.cell (p := ⟨x, j, none⟩) hx).trans hz
        have h2 : ((W7.alloc o).drew).frozen? ⟨x, j, none⟩ = W7.frozen? ⟨x, j, none⟩ := ((Below.refl W7.heap.size W7).alloc (Nat.le_refl _) o |>.frozen (p := ⟨x, j, none⟩) hx)
        exact ⟨(hg.cell_far ⟨x, j, none⟩ (by show x < ((W7.alloc o)).heap.size; simp; omega) (fun e => hne e.symm)).trans h1, (hg.frozen_far ⟨x, j, none⟩ (by show x < ((W7.alloc o)).heap.size; simp; omega) (fun e => hne e.symm)).trans h2⟩
      have hai : (a : Int) < (l.length : Int) + 1 := by omega
      have hC7 : C ≤ W7.heap.size := by omega
      have HM := hide hM
      have HBX7 := hide hbx7
      have HQ7 := hide hq7
      have HQ := hide hq
      clear hM hbx7 hrow7 hq7 hq hkl
      go_wp2
      have hSH : (fun w' : World => w'.cell? ⟨c, 0, none⟩ = some (.slice (some ⟨g6, 0, none⟩) (l.length + 1) cap6) ∧ w'.cell? ⟨w1.heap.size, 2, none⟩ = some (.int .i64 (a : Int)) ∧ w'.cell? ⟨g6, a * 7 + 6, none⟩ = some q.2) W7.drew := ⟨b0, n2, h76⟩
      refine Till.region (S := fun w' : World => w'.cell? ⟨c, 0, none⟩ = some (.slice (some ⟨g6, 0, none⟩) (l.length + 1) cap6) ∧ w'.cell? ⟨w1.heap.size, 2, none⟩ = some (.int .i64 (a : Int)) ∧ w'.cell? ⟨g6, a * 7 + 6, none⟩ = some q.2) (need := fun j => j != 20) (by kernel_rfl) ?_
      refine Till.take (i := 0) (v := ?v0) rfl (by kernel_rfl) (by kernel_rfl) (by kernel_rfl) (by kernel_rfl) (fun _ _ _ h => h) (Or.inl ⟨by rfl, ?y0⟩) hSH ?_
      case y0 =>
        intro wq hSq; clear hSq; go_simp
        first | done | with_reducible rfl
      try simp only [Act.put, List.setIfInBounds_toArray]
      refine Till.take (i := 1) (v := ?v1) rfl (by kernel_rfl) (by kernel_rfl) (by kernel_rfl) (by kernel_rfl) (fun _ _ _ h => h) (Or.inl ⟨by rfl, ?y1⟩) hSH ?_
      case y1 =>
        intro wq hSq; clear hSq; go_simp
        first | done | with_reducible rfl
      try simp only [Act.put]
      refine Till.take (i := 2) (v := ?v2) rfl (by kernel_rfl) (by kernel_rfl) (by kernel_rfl) (by kernel_rfl) (fun _ _ _ h => h) (Or.inl ⟨by rfl, ?y2⟩) hSH ?_
      case y2 =>
        intro wq hSq; clear hSq; go_simp
        first | done | with_reducible rfl
      try simp only [Act.put]
      refine Till.take (i := 3) (v := ?v3) rfl (by kernel_rfl) (by kernel_rfl) (by kernel_rfl) (by kernel_rfl) (fun _ _ _ h => h) (Or.inl ⟨by rfl, ?y3⟩) hSH ?_
      case y3 =>
        intro wq hSq; obtain ⟨s0, s1, s2⟩ := hSq; go_simp
        first | done | with_reducible rfl
      try simp only [Act.put]
      refine Till.take (i := 4) (v := ?v4) rfl (by kernel_rfl) (by kernel_rfl) (by kernel_rfl) (by kernel_rfl) (fun _ _ _ h => h) (Or.inl ⟨by rfl, ?y4⟩) hSH ?_
      case y4 =>
        intro wq hSq; clear hSq; go_simp
        first | done | with_reducible rfl
      try simp only [Act.put]
      refine Till.take (i := 5) (v := ?v5) rfl (by kernel_rfl) (by kernel_rfl) (by kernel_rfl) (by kernel_rfl) (fun _ _ _ h => h) (Or.inl ⟨by rfl, ?y5⟩) hSH ?_
      case y5 =>
        intro wq hSq; obtain ⟨s0, s1, s2⟩ := hSq; go_simp
        first | done | with_reducible rfl
      try simp only [Act.put]
      refine Till.take (i := 6) (v := ?v6) rfl (by kernel_rfl) (by kernel_rfl) (by kernel_rfl) (by kernel_rfl) (fun _ _ _ h => h) (Or.inl ⟨by rfl, ?y6⟩) hSH ?_
      case y6 =>
        intro wq hSq; clear hSq; go_simp
        first | done | with_reducible rfl
      try simp only [Act.put]
      refine Till.take (i := 7) (v := ?v7) rfl (by kernel_rfl) (by kernel_rfl) (by kernel_rfl) (by kernel_rfl) (fun _ _ _ h => h) (Or.inl ⟨by rfl, ?y7⟩) hSH ?_
      case y7 =>
        intro wq hSq; clear hSq; go_simp
        first | done | with_reducible rfl
      try simp only [Act.put]
      refine Till.take (i := 8) (v := ?v8) rfl (by kernel_rfl) (by kernel_rfl) (by kernel_rfl) (by kernel_rfl) (fun _ _ _ h => h) (Or.inl ⟨by rfl, ?y8⟩) hSH ?_
      case y8 =>
        intro wq hSq; clear hSq; go_simp
        first | done | with_reducible rfl
      try simp only [Act.put]
      refine Till.take (i := 9) (v := ?v9) rfl (by kernel_rfl) (by kernel_rfl) (by kernel_rfl) (by kernel_rfl) (fun _ _ _ h => h) (Or.inl ⟨by rfl, ?y9⟩) hSH ?_
      case y9 =>
        intro wq hSq; obtain ⟨s0, s1, s2⟩ := hSq; go_simp
        first | done | with_reducible rfl
      try simp only [Act.put]
      refine Till.take (i := 10) (v := ?v10) rfl (by kernel_rfl) (by kernel_rfl) (by kernel_rfl) (by kernel_rfl) (fun _ _ _ h => h) (Or.inl ⟨by rfl, ?y10⟩) hSH ?_
      case y10 =>
        intro wq hSq; clear hSq; go_simp
        first | done | with_reducible rfl
      try simp only [Act.put]
      refine Till.take (i := 11) (v := ?v11) rfl (by kernel_rfl) (by kernel_rfl) (by kernel_rfl) (by kernel_rfl) (fun _ _ _ h => h) (Or.inl ⟨by rfl, ?y11⟩) hSH ?_
      case y11 =>
        intro wq hSq; obtain ⟨s0, s1, s2⟩ := hSq; go_simp
        first | done | with_reducible rfl
      try simp only [Act.put]
      refine Till.take (i := 12) (v := ?v12) rfl (by kernel_rfl) (by kernel_rfl) (by kernel_rfl) (by kernel_rfl) (fun _ _ _ h => h) (Or.inl ⟨by rfl, ?y12⟩) hSH ?_
      case y12 =>
        intro wq hSq; clear hSq; go_simp
        first | done | with_reducible rfl
      try simp only [Act.put]
      refine Till.take (i := 13) (v := ?v13) rfl (by kernel_rfl) (by kernel_rfl) (by kernel_rfl) (by kernel_rfl) (fun _ _ _ h => h) (Or.inl ⟨by rfl, ?y13⟩) hSH ?_
      case y13 =>
        intro wq hSq; clear hSq; go_simp
        first | done | with_reducible rfl
      try simp only [Act.put]
      refine Till.take (i := 14) (v := ?v14) rfl (by kernel_rfl) (by kernel_rfl) (by kernel_rfl) (by kernel_rfl) (fun _ _ _ h => h) (Or.inl ⟨by rfl, ?y14⟩) hSH ?_
      case y14 =>
        intro wq hSq; obtain ⟨s0, s1, s2⟩ := hSq; go_simp
        first | done | with_reducible rfl
      try simp only [Act.put]
      refine Till.take (i := 15) (v := ?v15) rfl (by kernel_rfl) (by kernel_rfl) (by kernel_rfl) (by kernel_rfl) (fun _ _ _ h => h) (Or.inl ⟨by rfl, ?y15⟩) hSH ?_
      case y15 =>
        intro wq hSq; clear hSq; go_simp
        first | done | with_reducible rfl
      try simp only [Act.put]
      refine Till.one (i := 16) (by kernel_rfl) rfl (fun K' hK => ?_)
      go_simp
      refine hK.out _ _ (fun _ => ?s16) ?_
      case s16 =>
        have hbz : Below W7.heap.size W7 (W7.alloc (.cells #[.int .i64 (l.length : Int)] 3)).drew := ((Below.refl _ _).alloc (Nat.le_refl _) _).drew
        exact ⟨(hbz.cell (p := ⟨c, 0, none⟩) hc7).trans b0, (hbz.cell (p := ⟨w1.heap.size, 2, none⟩) hbl7).trans n2, (hbz.cell (p := ⟨g6, a * 7 + 6, none⟩) hg67).trans h76⟩
      clear hK K'
      try simp only [Act.put, List.setIfInBounds_toArray, List.set_cons_zero, List.set_cons_succ]
      refine Till.one (i := 17) (by kernel_rfl) rfl (fun K' hK => ?_)
      refine step_append_lies _ rfl (.tmp 76) (.tmp 78) 31 rfl C 3 i3 _ 1 8 Tryz.underlying31 hi hz0 hz1 hz2 rfl (by decide) q.2 q.1.kids.length (ints q.1.kids) rfl (unhide HW _) ⟨W7.heap.size, 0, none⟩ 1 1 [Value.int .i64 (l.length : Int)] rfl rfl (unhide HN) (by simp [Value.oneCell']) (by decide) (by unfold maxLen; omega) (by omega) (by show _ ≤ (W7.alloc _).heap.size; simp; omega) (W7.heap.size + 1) (by show (W7.alloc _).heap.size = _; simp) ?_
      intro g8 cap8 w8 hown8 hg8 hat8 hlt8
      obtain ⟨e0, _⟩ := unhide HFAR _ _ _ _ _ hc7 hno hg8 b0
      obtain ⟨e2, _⟩ := unhide HFAR _ _ _ _ _ hbl7 hnob hg8 n2
      obtain ⟨e6, ef6⟩ := unhide HFAR _ _ _ _ _ hg67 hnog hg8 h76
      rw [f76] at ef6
      have hSH8 : (fun w' : World => w'.cell? ⟨c, 0, none⟩ = some (.slice (some ⟨g6, 0, none⟩) (l.length + 1) cap6) ∧ w'.cell? ⟨w1.heap.size, 2, none⟩ = some (.int .i64 (a : Int)) ∧ w'.cell? ⟨g6, a * 7 + 6, none⟩ = some q.2) w8 := ⟨e0, e2, e6⟩
      refine hK.out _ _ (fun _ => hSH8) ?_
      clear hK K' hSH
      have hSH := hSH8
      clear hSH8
      try simp only [Act.put, List.setIfInBounds_toArray]
      refine Till.one (i := 18) (by kernel_rfl) rfl (fun K' hK => ?_)
      go_simp
      refine hK.out _ _ (fun _ => hSH) ?_
      clear hK K'
      try simp only [Act.put, List.setIfInBounds_toArray, List.set_cons_zero, List.set_cons_succ]
      refine Till.take (i := 19) (v := ?v19) rfl (by kernel_rfl) (by kernel_rfl) (by kernel_rfl) (by kernel_rfl) (fun _ _ _ h => h) (Or.inl ⟨by rfl, ?y19⟩) hSH ?_
      case y19 =>
        intro wq hSq
        clear hSq
        go_simp
        first | done | with_reducible rfl
      try simp only [Act.put, List.setIfInBounds_toArray]
      refine Till.one (i := 20) (by kernel_rfl) rfl (fun K' hK => ?_)
      go_simp
      refine hK.out _ _ (fun h => (by cases h)) ?_
      clear hK K'
      refine Till.done (by kernel_rfl) ?_ _
      have hlen1 : (l ++ [(ndOf a k sz tm tx (lastS way), Value.slice none 0 0)]).length = l.length + 1 := by simp
      have hM8 := add_kid (l := l ++ [(ndOf a k sz tm tx (lastS way), Value.slice none 0 0)]) (cap6 := cap6) (n := l.length) (by rw [hlen1]; exact unhide HM) HQ7.out hown8 hg8 hat8
      rw [hlen1] at hM8
      have hb89 : Below C W7 (w8.setCell ⟨g6, a * 7 + 6, none⟩ (.slice (some ⟨g8, 0, none⟩) (q.1.kids.length + 1) cap8)) := ((((Below.refl C W7).alloc hC7 _).drew).grown hg8 (by simp; omega) (fun j e => (((unhide HI).own.2 q hqm).lt j e).1)).setCell (p := ⟨g6, a * 7 + 6, none⟩) ((unhide HM).own.1.lt g6 rfl).1 _
      have hbx9 : BoxP (w8.setCell ⟨g6, a * 7 + 6, none⟩ (.slice (some ⟨g8, 0, none⟩) (q.1.kids.length + 1) cap8)) w1.heap.size k (lastS way) (a : Int) sz tm tx (.slice none 0 0) := by
        have h1 : w8.heap[w1.heap.size]? = W7.heap[w1.heap.size]? := (hg8.block _ (by simp; omega) (fun e => hnob e.symm)).trans (Below.heap_alloc W7 _ _ hbl7)
        exact (set_block_other (fun e => hgb e.symm)).trans (h1.trans (unhide HBX7))
      obtain ⟨W9, hW9⟩ : ∃ W9, w8.setCell ⟨g6, a * 7 + 6, none⟩ (.slice (some ⟨g8, 0, none⟩) (q.1.kids.length + 1) cap8) = W9 := ⟨_, rfl⟩
      rw [hW9] at hM8 hb89 hbx9 ⊢
      obtain ⟨D, hD, hok⟩ := hM8.spots
      have hmr := maps_apart hD hM8.rd
      obtain ⟨w11, hrun, hup, hg11⟩ := World.ownsMap.update (val := .agg #[.int .i64 (l.length : Int), .bool (k == 100 || k == 120)]) (d := spD l.length (k == 100 || k == 120)) (ps := []) (show W9.drew.ownsMap Tryz.prog 9 spotElem bm K.length D from hD) lawS Tryz.underlying51 (by unfold maxLen; omega) (keyS way (by unfold maxLen; omega)) rfl
      have HX : Hid (AddPost C A c (addR (l.map (·.1)) K line ended) w (.returned .nilIface) w11) := by
        obtain ⟨hBI, hmap⟩ := add_fin (nd := ndOf a k sz tm tx (lastS way)) hM8 HQ.out hD hok hup (show W9.grownBy w11 (some bm) from ⟨hg11.os, hg11.tape, hg11.output, hg11.size, hg11.block⟩) hmr HLW.out hKl (unhide HI).hc (unhide HI).hm (unhide HI).hr
        unfold Hid
        rw [HYES.out]
        refine ⟨⟨rfl, _, bm, br, _, hBI, ?_⟩, ?_⟩
        · rw [hmap, HQD.out]; rfl
        · exact (((((unhide HBW5).mono hC).trans (unhide HB67)).trans hb89).drew).grown hg11 (by have := hb89.size; show C ≤ W9.heap.size; omega) (fun j e => by cases e; exact (unhide HI).hm)
      obtain ⟨n0, _⟩ := hbx9.cells
      obtain ⟨_, b1, _⟩ := hM8.box.cells
      clear hown8 hg8 hat8 hlt8 e0 e2 e6 ef6 hSH hM8 hbx9 hD hok hup hg11 hW9 b0 h76 f76
      have HDI : Hid (∀ wz, Calls Tryz.prog 44 #[.int .u8 k] wz fun e w' => e = .returned (.bool (k == 100 || k == 120)) ∧ w' = wz) := fun wz => isDirectory_any k wz
      obtain ⟨kd, hkd⟩ : ∃ kd, (k == 100 || k == 120) = kd := ⟨_, rfl⟩
      rw [hkd] at hrun HDI
      clear hkd
      go_wp2
      go_region_with (go_at_call 44; refine ((unhide HDI) _).mono ?_; rintro e wz ⟨rfl, rfl⟩)
      all_goals
        go_wp2
        go_ret
        exact unhide HX
  · have hnx := nn_yes hx1
    have HAP : Hid (AddPost C A c (addR (l.map (·.1)) K line ended) w (.returned (.iface t pv)) w4) := by
      rw [hxn, ← HP1.out, ← HP2.out, ← HP3.out] at hnx
      rw [← HP1.out, ← HP2.out, ← HP3.out] at hx2
      have hlen : (l.map (·.1)).length = l.length := List.length_map _
      rw [← hlen] at hnx hx2
      obtain ⟨y, hy, hey⟩ := errno4 (unhide HS2) HCA.out hnx (fun a ha => spots_some (unhide HI2).spots ha)
      rw [hy]
      refine ⟨⟨t, pv, x.2, rfl, by rw [← hx1]; exact herr, by rw [hx2]; exact hey⟩, unhide HBC⟩
    rw [hx1]
    clear hnx herr hx2 hxn hb4 hb3 hx1 c0 c1 c2 c3 HCE HCR HSP HRD HUP HI HI2
    go_wp2
    go_ret
    exact unhide HAP
end Go.Proofs.YtconbmfbokpklaaGreatDoor
