import Derived.Test.YtiekhoehkgmbjaaDoorGrC
/- The document's patterns: Pieces, its errors. -/
namespace Go.Proofs.YtiekhoehkgmbjaaDoor
open Go.RowKit Go.Maps
theorem Tryd.info76 : (Tryd.prog.info? 76).map (fun i => (i.zero, i.size, i.bytes)) = some (some (.agg #[.int .i64 0, .string ⟨#[]⟩]), 2, 24) := by kernel_rfl
theorem Tryd.u41 : Tryd.prog.underlying 41 = some (.slice 76) := by kernel_rfl
theorem zcells2 {W : World} {z : Nat} {x y : Value} {t : TypeId} (h : W.heap[z]? = some (.cells #[x, y] t (0, 0))) : W.cell? ⟨z, 0, none⟩ = some x ∧ W.cell? ⟨z, 1, none⟩ = some y ∧ ∀ j, W.frozen? ⟨z, j, none⟩ = false := by
  refine ⟨by rw [cell_of_row _ _ _ _ _ _ h]; rfl, by rw [cell_of_row _ _ _ _ _ _ h]; rfl, fun j => ?_⟩
  simp [World.frozen?, h]
theorem set2 {W : World} {z : Nat} {x y : Value} {t : TypeId} (h : W.heap[z]? = some (.cells #[x, y] t (0, 0))) (a b : Value) : ((W.setCell ⟨z, 0, none⟩ a).setCell ⟨z, 1, none⟩ b).heap[z]? = some (.cells #[a, b] t (0, 0)) ∧ (∀ k, k ≠ z → ((W.setCell ⟨z, 0, none⟩ a).setCell ⟨z, 1, none⟩ b).heap[k]? = W.heap[k]?) := by
  have st : ∀ (V : World) (cs : Array Value) (j : Nat) (v : Value), V.heap[z]? = some (.cells cs t (0, 0)) → (V.setCell ⟨z, j, none⟩ v).heap[z]? = some (.cells (cs.set! j v) t (0, 0)) := by
    intro V cs j v hV
    obtain ⟨hlt, hk⟩ := Array.getElem?_eq_some_iff.1 hV
    show (V.heap.modify z _)[z]? = _
    rw [Array.getElem?_eq_getElem (by rw [Array.size_modify]; exact hlt), Array.getElem_modify_self, hk]
    rfl
  have ot : ∀ (V : World) (j : Nat) (v : Value) (k : Nat), k ≠ z → (V.setCell ⟨z, j, none⟩ v).heap[k]? = V.heap[k]? := by
    intro V j v k hk
    show (V.heap.modify z _)[k]? = _
    rw [Array.getElem?_modify, if_neg (fun e => hk e.symm)]
  refine ⟨st _ _ 1 b (st _ _ 0 a h), fun k hk => ?_⟩
  rw [ot _ _ _ k hk, ot _ _ _ k hk]
theorem err_step {n : Nat} {l rest : List UInt8} {p : PcD} (h : pieceD l = .ok p rest) : errD (patD (n + 1) l) = errD (patD n rest) := by
  match l, h with
  | [], h => cases h
  | c :: r, h =>
    rw [patD]
    simp only [h]
    cases patD n rest <;> rfl
theorem err_wrong {s : ByteArray} (h : s.size ≤ 200) : (wrongD s : Int) = errD (patD s.size s.data.toList) := by
  unfold wrongD
  rw [if_neg (by omega)]
  cases patD s.size s.data.toList <;> rfl
theorem news2 (W : World) (x y : Value) (t : TypeId) : ∀ (j : Nat) (r : Value), [x, y][j]? = some r → (W.alloc (.cells #[x, y] t)).cell? ((⟨W.heap.size, 0, none⟩ : Addr).add j) = some r := World.news_of_block (cs := #[x, y]) (World.alloc_heap_new W _)

theorem pc_star {s : ByteArray} {j : Nat} (h : j < s.size) (hc : s[j]'h = 42) : ∃ p, pieceD (s.data.toList.drop j) = .ok p (s.data.toList.drop (j + 1)) := by
  rw [sl_get h, hc]; exact ⟨_, rfl⟩
theorem pc_q {s : ByteArray} {j : Nat} (h : j < s.size) (hc : s[j]'h = 63) : ∃ p, pieceD (s.data.toList.drop j) = .ok p (s.data.toList.drop (j + 1)) := by
  rw [sl_get h, hc]; exact ⟨_, rfl⟩
theorem pc_esc {s : ByteArray} {j : Nat} (h : j < s.size) (hc : s[j]'h = 92) (h2 : j + 1 < s.size) : ∃ p, pieceD (s.data.toList.drop j) = .ok p (s.data.toList.drop (j + 2)) := by
  rw [sl_get h, hc, sl_get h2]; exact ⟨_, rfl⟩
theorem pc_esc_end {s : ByteArray} {j : Nat} (h : j < s.size) (hc : s[j]'h = 92) (h2 : ¬ j + 1 < s.size) : pieceD (s.data.toList.drop j) = .text := by
  rw [sl_get h, hc, List.drop_of_length_le (by rw [len_list]; omega)]; rfl
theorem pc_plain {s : ByteArray} {j : Nat} (h : j < s.size) (h1 : s[j]'h ≠ 42) (h2 : s[j]'h ≠ 63) (h3 : s[j]'h ≠ 92) (h4 : s[j]'h ≠ 91) : ∃ p, pieceD (s.data.toList.drop j) = .ok p (s.data.toList.drop (j + 1)) := by
  rw [sl_get h]
  unfold pieceD
  simp only [h1, h2, h3, h4, if_false]
  exact ⟨_, rfl⟩
theorem pc_br {s : ByteArray} {j : Nat} (h : j < s.size) (hc : s[j]'h = 91) : pieceD (s.data.toList.drop j) = (match bracketD true noD (s.data.toList.drop j) with | some p => if p.known = true then .ok (.wild false p.set) p.rest else .range | none => .ok (.lit 91) (s.data.toList.drop (j + 1))) := by
  rw [sl_get h, hc]
  rfl
theorem pc_br_none {s : ByteArray} {j : Nat} (h : j < s.size) (hc : s[j]'h = 91) (ht : brTold s j = none) : ∃ p, pieceD (s.data.toList.drop j) = .ok p (s.data.toList.drop (j + 1)) := by
  unfold brTold at ht
  rw [Option.map_eq_none_iff] at ht
  rw [pc_br h hc, ht]
  exact ⟨_, rfl⟩
theorem pc_br_some {s : ByteArray} {j m : Nat} {k : Bool} (h : j < s.size) (hc : s[j]'h = 91) (ht : brTold s j = some (k, m)) : j < m ∧ m ≤ s.size ∧ ((k = false ∧ pieceD (s.data.toList.drop j) = .range) ∨ (k = true ∧ ∃ p, pieceD (s.data.toList.drop j) = .ok p (s.data.toList.drop m))) := by
  unfold brTold at ht
  rw [Option.map_eq_some_iff] at ht
  obtain ⟨q, hq, he⟩ := ht
  have hk : q.known = k := congrArg Prod.fst he
  have hm : s.size - q.rest.length = m := congrArg Prod.snd he
  have hl := bracketD_rest hq
  rw [List.length_drop, len_list] at hl
  refine ⟨by omega, by omega, ?_⟩
  have hp := pc_br h hc
  rw [hq] at hp
  cases k with
  | false => left; refine ⟨rfl, ?_⟩; rw [hp]; simp [hk]
  | true =>
    right
    refine ⟨rfl, ?_⟩
    have hp2 : pieceD (s.data.toList.drop j) = .ok (.wild false q.set) q.rest := by rw [hp]; simp [hk]
    have hd := pieceD_drop hp2
    rw [len_list, hm] at hd
    rw [hd] at hp2
    exact ⟨_, hp2⟩
/-- The loop of Pieces, from a place on. -/
def PcSt (s : ByteArray) (E : Int) (w : World) (j : Nat) (v : Value) (wr : World) : Prop :=
  ∃ (n c : Nat) (xs : List Value), j ≤ s.size ∧ s.size - j ≤ n ∧ errD (patD n (s.data.toList.drop j)) = E ∧ c ≤ j ∧ wr.ownsRow w.heap.size 76 2 v c xs ∧ Below w.heap.size w wr
theorem PcSt.over {s : ByteArray} {E : Int} {w wr : World} {j : Nat} {v : Value} (h : PcSt s E w j v wr) (hj : ¬ j < s.size) : E = 0 := by
  obtain ⟨n, c, xs, _, _, h3, _⟩ := h
  rw [← h3, List.drop_of_length_le (by rw [len_list]; omega)]
  cases n <;> rfl
theorem PcSt.bad {s : ByteArray} {E : Int} {w wr : World} {j : Nat} {v : Value} (h : PcSt s E w j v wr) (hj : j < s.size) : (pieceD (s.data.toList.drop j) = .text → E = 2) ∧ (pieceD (s.data.toList.drop j) = .range → E = 3) := by
  obtain ⟨n, c, xs, _, h2, h3, _⟩ := h
  obtain ⟨n', rfl⟩ : ∃ n', n = n' + 1 := ⟨n - 1, by omega⟩
  have hne : s.data.toList.drop j ≠ [] := by rw [sl_get hj]; simp
  exact ⟨fun e => by rw [← h3, patD_text hne e]; rfl, fun e => by rw [← h3, patD_range hne e]; rfl⟩
theorem grow_row2 {w wr w1 : World} {v : Value} {n t sz : Nat} {xs : List Value} {ob : Obj} (hb : Below w.heap.size w wr) (ho : wr.ownsRow w.heap.size t sz v n xs) (hg : (wr.alloc ob).grownBy w1 v.ownBlock) : Below w.heap.size w w1 :=
  hb.grown ((World.grownBy_alloc wr ob _).trans hg) hb.size (fun _ e => (own_cells ho e).1)
/-- A piece's block written over: what stays. -/
theorem box_over {w W1 w3 : World} {z : Nat} {x y : Value} {v : Value} {c : Nat} {xs : List Value} (hz : w.heap.size ≤ z) (hn : W1.heap[z]? = some (.cells #[x, y] 76 (0, 0))) (hnb : v.ownBlock ≠ some z) (ho : W1.ownsRow w.heap.size 76 2 v c xs) (hb1 : Below w.heap.size w W1) (hb : Below W1.heap.size W1 w3) (a b : Value) :
    ∃ W7, (w3.setCell ⟨z, 0, none⟩ a).setCell ⟨z, 1, none⟩ b = W7 ∧ W7.heap[z]? = some (.cells #[a, b] 76 (0, 0)) ∧ W7.ownsRow w.heap.size 76 2 v c xs ∧ Below w.heap.size w W7 ∧ w3.heap[z]? = some (.cells #[x, y] 76 (0, 0)) := by
  have hzl := (Array.getElem?_eq_some_iff.1 hn).1
  have hn3 : w3.heap[z]? = some (.cells #[x, y] 76 (0, 0)) := (hb.block z hzl).trans hn
  obtain ⟨q1, q2⟩ := set2 hn3 a b
  have b3 : Below w.heap.size w w3 := hb1.trans (hb.mono hb1.size)
  have ho3 : w3.ownsRow w.heap.size 76 2 v c xs := own_below ho hb
  refine ⟨_, rfl, q1, row_keep ho3 (fun k cs hk e => (q2 k (fun e2 => hnb (e2 ▸ e))).trans hk), ⟨b3.os, b3.tape, b3.output, ?_, fun k hk => (q2 k (by omega)).trans (b3.block k hk)⟩, hn3⟩
  rw [set_size, set_size]
  exact b3.size
theorem pcs_ret (s : ByteArray) (a n c : _) (m pl : Int) (A : Act) (w W : World) (h1 : A.tmps[4]? = some (.slice a n c)) (h2 : A.tmps[5]? = some (.int .i64 m)) (h3 : A.tmps[6]? = some (.int .i64 pl)) (hm : (wrongD s : Int) = m) (hd : A.defers = []) (hW : Below w.heap.size w W) :
    bodyPost Tryd.prog Tryd.f16 (fun e w' => (∃ a n c pl, e = .returned (.tuple #[.slice a n c, .int .i64 (wrongD s : Int), .int .i64 pl])) ∧ Below w.heap.size w w') Exit.ret A W :=
  bodyPost_ret (v := .tuple #[.slice a n c, .int .i64 m, .int .i64 pl]) (by simp [results, Tryd.results16, go_sem, h1, h2, h3]) hd ⟨⟨a, n, c, pl, by rw [hm]⟩, hW⟩
set_option maxRecDepth 100000 in
set_option maxHeartbeats 8000000 in
theorem pieces_any (s : ByteArray) (way : Bool) (w : World) :
    Calls Tryd.prog 16 #[.string s, .bool way] w fun e w' => (∃ a n c pl, e = .returned (.tuple #[.slice a n c, .int .i64 (wrongD s : Int), .int .i64 pl])) ∧ Below w.heap.size w w' := by
  by_cases hlong : 200 < s.size
  · have hlI : (200 : Int) < (s.size : Int) := by omega
    have HE : Hid ((wrongD s : Int) = 1) := by show (wrongD s : Int) = 1; unfold wrongD; rw [if_pos hlong]; rfl
    go_enter Tryd.func16, Tryd.ntmps16
    go_wp2
    exact pcs_ret s _ _ _ _ _ _ w _ rfl rfl rfl HE.out rfl (Below.refl _ _)
  have hs : s.size ≤ 200 := by omega
  have hlI : ¬ ((200 : Int) < (s.size : Int)) := by omega
  obtain ⟨E, hE⟩ : ∃ E, (wrongD s : Int) = E := ⟨_, rfl⟩
  have HS : Hid (PcSt s E w 0 (.slice none 0 0) w) := ⟨s.size, 0, [], Nat.zero_le _, by omega, by rw [← hE, err_wrong hs]; rfl, Nat.le_refl _, ⟨rfl, .inl ⟨rfl, rfl⟩⟩, Below.refl _ _⟩
  have HE := hide hE
  clear hE hlong
  obtain ⟨i0, hi0, hz0, hz1, hz2⟩ := info_parts Tryd.info76
  obtain ⟨sl, hsl, hsl1⟩ : ∃ sl : ByteArray, (if way = true then (⟨#[47]⟩ : ByteArray) else ⟨#[]⟩) = sl ∧ sl.size ≤ 1 := ⟨_, rfl, by cases way <;> decide⟩
  go_enter Tryd.func16, Tryd.ntmps16
  cases way
  all_goals
    simp only [if_true, Bool.false_eq_true, if_false] at hsl
    subst hsl
    go_wp2
    go_loopw [8, 9] (fun ov iv wr => ∃ (j : Nat), iv = .int .i64 (j : Int) ∧ PcSt s E w j ov wr) (fun _ iv _ => s.size - (intOf iv).toNat)
    case atStart => exact ⟨0, rfl, HS.out⟩
    case round =>
      obtain ⟨j, rfl, hst⟩ := hrel
      have hst' := hst
      obtain ⟨n, cnt, xs, hjs, hn, her, hcnt, hown, hbw⟩ := hst'
      obtain ⟨oa, on, oc, hov⟩ : ∃ a n c, u8 = .slice a n c := by
        rcases hown.2 with ⟨e, _⟩ | ⟨g, cap, cur, e, _⟩ <;> exact ⟨_, _, _, e⟩
      subst hov
      have HBW := hide hbw
      clear HS
      by_cases hj : j < s.size
      case neg =>
        have hjI : ¬ ((j : Int) < (s.size : Int)) := by omega
        have HN := hide (HE.out.trans (hst.over hj))
        clear hst her hown hbw
        go_wp2
        exact pcs_ret s _ _ _ _ _ _ w _ rfl rfl rfl HN.out rfl HBW.out
      have hjI : (j : Int) < (s.size : Int) := by omega
      have hjI2 : (j : Int) + 1 ≤ (s.size : Int) := by omega
      have hjI3 : (j : Int) ≤ (j : Int) + 1 := by omega
      have hjI4 : (0 : Int) ≤ (j : Int) + 1 := by omega
      obtain ⟨n', rfl⟩ : ∃ n', n = n' + 1 := ⟨n - 1, by omega⟩
      have HBAD := hide (hst.bad hj)
      -- the next round's state, once a piece is read
      have HNEXT : Hid (∀ (m : Nat) (p : PcD) (ys : List Value) (v : Value) (w' : World), pieceD (s.data.toList.drop j) = .ok p (s.data.toList.drop m) → j < m → m ≤ s.size → w'.ownsRow w.heap.size 76 2 v (cnt + 1) ys → Below w.heap.size w w' → PcSt s E w m v w') := fun m p ys v w' h1 h2 h3 h4 h5 => ⟨n', cnt + 1, ys, h3, by omega, by rw [← err_step h1]; exact her, by omega, h4, h5⟩
      have hmaxl : cnt + 1 ≤ maxLen := by unfold maxLen; omega
      obtain ⟨W1, hW1⟩ : ∃ W1, wr.alloc (.cells #[.int .i64 0, .string (s.extract j (j + 1))] 76) = W1 := ⟨_, rfl⟩
      have z1 : W1.heap.size = wr.heap.size + 1 := by rw [← hW1, World.size_alloc]
      have b1 : Below wr.heap.size wr W1 := by rw [← hW1]; exact (Below.refl _ _).alloc (Nat.le_refl _) _
      have hn1 : W1.heap[wr.heap.size]? = some (.cells #[.int .i64 0, .string (s.extract j (j + 1))] 76 (0, 0)) := by rw [← hW1]; exact World.alloc_heap_new wr _
      -- whatever the piece's block holds, the rest of the round
      have hown1 : W1.ownsRow w.heap.size 76 2 (.slice oa on oc) cnt xs := own_below hown b1
      have hbs := hbw.size
      have hnb0 : (Value.slice oa on oc).ownBlock ≠ some wr.heap.size := fun e => by have := own_lt hown e; omega
      have HOWN1 := hide hown1
      have HB1 := hide (hbw.trans (b1.mono hbs))
      have HN1 := hide hn1
      have HZ1 := hide z1
      obtain ⟨d0, d1, df⟩ := zcells2 hn1
      clear hst her hown hbw b1 hn1 z1 hown1
      have HNB : Hid ((Value.slice oa on oc).ownBlock ≠ some wr.heap.size) := hnb0
      clear hnb0
      by_cases c1 : s[j]'hj = 42
      · have e1 := b_yes c1 (x := 42) rfl
        obtain ⟨p, hp⟩ := pc_star hj c1
        have HP := hide hp
        clear c1 hp
        go_wp2_with fail
        refine (all_any W1).mono ?_
        rintro e w2 ⟨t, rfl, ht, b2⟩
        go_wp2_with fail
        refine (without_any t _ w2 (by omega) (by decide)).mono ?_
        rintro e w3 ⟨u, rfl, hu, b3⟩
        obtain ⟨W7, hW7, q1, ho7, b7, q3⟩ := box_over (by omega) HN1.out HNB.out HOWN1.out HB1.out (b2.trans (b3.mono b2.size)) (.int .i64 1) (.string u)
        have HO7 := hide ho7
        have HB7 := hide b7
        obtain ⟨d0, d1, df⟩ := zcells2 q3
        obtain ⟨f0, f1, ff⟩ := zcells2 q1
        clear ho7 b7 q1 q3 b2 b3
        have hs7 : w.heap.size ≤ W7.heap.size := HB7.out.size
        go_wp2_with (at_builtin; refine wpList_append_lies _ rfl (.tmp 88) (.tmp 90) 41 rfl w.heap.size 76 i0 _ 2 24 Tryd.u41 hi0 hz0 hz1 hz2 rfl (by decide) (.slice oa on oc) cnt xs rfl (HO7.out.alloc _) ⟨W7.heap.size, 0, none⟩ 1 1 [.int .i64 1, .string u] rfl rfl (news2 _ _ _ _) (by simp [Value.oneCell']) (by decide) hmaxl (by omega) (by simp; omega) _ rfl ?_; intro g7 c7 w7 hown7 hgr7 hat7 hlt7)
        exact ⟨⟨j + 1, by simp, HNEXT.out (j + 1) p _ _ w7 HP.out (by omega) (by omega) hown7 (grow_row2 HB7.out HO7.out hgr7)⟩, by simp [intOf]; omega⟩
      by_cases c2 : s[j]'hj = 63
      · have e1 := b_no c1 (x := 42) rfl
        have e2 := b_yes c2 (x := 63) rfl
        obtain ⟨p, hp⟩ := pc_q hj c2
        have HP := hide hp
        clear c1 c2 hp
        go_wp2_with fail
        refine (all_any W1).mono ?_
        rintro e w2 ⟨t, rfl, ht, b2⟩
        go_wp2_with fail
        refine (without_any t _ w2 (by omega) (by decide)).mono ?_
        rintro e w3 ⟨u, rfl, hu, b3⟩
        obtain ⟨W7, hW7, q1, ho7, b7, q3⟩ := box_over (by omega) HN1.out HNB.out HOWN1.out HB1.out (b2.trans (b3.mono b2.size)) (.int .i64 2) (.string u)
        have HO7 := hide ho7
        have HB7 := hide b7
        obtain ⟨d0, d1, df⟩ := zcells2 q3
        obtain ⟨f0, f1, ff⟩ := zcells2 q1
        clear ho7 b7 q1 q3 b2 b3
        have hs7 : w.heap.size ≤ W7.heap.size := HB7.out.size
        go_wp2_with (at_builtin; refine wpList_append_lies _ rfl (.tmp 88) (.tmp 90) 41 rfl w.heap.size 76 i0 _ 2 24 Tryd.u41 hi0 hz0 hz1 hz2 rfl (by decide) (.slice oa on oc) cnt xs rfl (HO7.out.alloc _) ⟨W7.heap.size, 0, none⟩ 1 1 [.int .i64 2, .string u] rfl rfl (news2 _ _ _ _) (by simp [Value.oneCell']) (by decide) hmaxl (by omega) (by simp; omega) _ rfl ?_; intro g7 c7 w7 hown7 hgr7 hat7 hlt7)
        exact ⟨⟨j + 1, by simp, HNEXT.out (j + 1) p _ _ w7 HP.out (by omega) (by omega) hown7 (grow_row2 HB7.out HO7.out hgr7)⟩, by simp [intOf]; omega⟩
      by_cases c3 : s[j]'hj = 92
      · have e1 := b_no c1 (x := 42) rfl
        have e2 := b_no c2 (x := 63) rfl
        have e3 := b_yes c3 (x := 92) rfl
        by_cases h2 : j + 1 < s.size
        · obtain ⟨p, hp⟩ := pc_esc hj c3 h2
          have HP := hide hp
          have g1 : (((j : Int) + 1) == (s.size : Int)) = false := by rw [beq_eq_false_iff_ne]; omega
          have g2 : (j : Int) + 1 ≤ (j : Int) + 2 := by omega
          have g3 : (j : Int) + 2 ≤ (s.size : Int) := by omega
          have g4 : (0 : Int) ≤ (j : Int) + 2 := by omega
          obtain ⟨W7, hW7, q1, ho7, b7, q3⟩ := box_over (by omega) HN1.out HNB.out HOWN1.out HB1.out (Below.refl _ W1) (.int .i64 0) (.string (s.extract (j + 1) (j + 2)))
          have HO7 := hide ho7
          have HB7 := hide b7
          obtain ⟨f0, f1, ff⟩ := zcells2 q1
          clear ho7 b7 q1 q3 c1 c2 c3 hp
          have hs7 : w.heap.size ≤ W7.heap.size := HB7.out.size
          go_wp2_with (at_builtin; refine wpList_append_lies _ rfl (.tmp 88) (.tmp 90) 41 rfl w.heap.size 76 i0 _ 2 24 Tryd.u41 hi0 hz0 hz1 hz2 rfl (by decide) (.slice oa on oc) cnt xs rfl (HO7.out.alloc _) ⟨W7.heap.size, 0, none⟩ 1 1 [.int .i64 0, .string (s.extract (j + 1) (j + 2))] rfl rfl (news2 _ _ _ _) (by simp [Value.oneCell']) (by decide) hmaxl (by omega) (by simp; omega) _ rfl ?_; intro g7 c7 w7 hown7 hgr7 hat7 hlt7)
          exact ⟨⟨j + 2, by simp, HNEXT.out (j + 2) p _ _ w7 HP.out (by omega) (by omega) hown7 (grow_row2 HB7.out HO7.out hgr7)⟩, by simp [intOf]; omega⟩
        · have g1 : (((j : Int) + 1) == (s.size : Int)) = true := by rw [beq_iff_eq]; omega
          have HN := hide (HE.out.trans (HBAD.out.1 (pc_esc_end hj c3 h2)))
          clear c1 c2 c3
          go_wp2
          exact pcs_ret s _ _ _ _ _ _ w _ rfl rfl rfl HN.out rfl HB1.out
      by_cases c4 : s[j]'hj = 91
      · have e1 := b_no c1 (x := 42) rfl
        have e2 := b_no c2 (x := 63) rfl
        have e3 := b_no c3 (x := 92) rfl
        have e4 := b_yes c4 (x := 91) rfl
        have hbr := rbr_any s j W1 hs hj c4
        cases ht : brTold s j with
        | none =>
          obtain ⟨p, hp⟩ := pc_br_none hj c4 ht
          rw [ht] at hbr
          have HP := hide hp
          clear hp ht c1 c2 c3 c4
          go_wp2_with fail
          refine hbr.mono ?_
          rintro e w2 ⟨⟨set, rfl, hset⟩, b2⟩
          have hn2 : w2.heap[wr.heap.size]? = some (.cells #[.int .i64 0, .string (s.extract j (j + 1))] 76 (0, 0)) := (b2.block _ (by rw [HZ1.out]; omega)).trans HN1.out
          obtain ⟨f0, f1, ff⟩ := zcells2 hn2
          have HO2 := hide (own_below HOWN1.out b2)
          have HB2 := hide (HB1.out.trans (b2.mono HB1.out.size))
          have hs2 : w.heap.size ≤ w2.heap.size := HB2.out.size
          clear hn2 b2 hbr
          simp only [brAns]
          go_wp2_with (at_builtin; refine wpList_append_lies _ rfl (.tmp 88) (.tmp 90) 41 rfl w.heap.size 76 i0 _ 2 24 Tryd.u41 hi0 hz0 hz1 hz2 rfl (by decide) (.slice oa on oc) cnt xs rfl (HO2.out.alloc _) ⟨w2.heap.size, 0, none⟩ 1 1 [.int .i64 0, .string (s.extract j (j + 1))] rfl rfl (news2 _ _ _ _) (by simp [Value.oneCell']) (by decide) hmaxl (by omega) (by simp; omega) _ rfl ?_; intro g7 c7 w7 hown7 hgr7 hat7 hlt7)
          exact ⟨⟨j + 1, by simp, HNEXT.out (j + 1) p _ _ w7 HP.out (by omega) (by omega) hown7 (grow_row2 HB2.out HO2.out hgr7)⟩, by simp [intOf]; omega⟩
        | some km =>
          obtain ⟨k, m⟩ := km
          obtain ⟨hm1, hm2, ⟨rfl, hp⟩ | ⟨rfl, p, hp⟩⟩ := pc_br_some hj c4 ht
          · rw [ht] at hbr
            have HN := hide (HE.out.trans (HBAD.out.2 hp))
            have hmI : (0 : Int) ≤ (m : Int) := by omega
            clear hp ht c1 c2 c3 c4
            go_wp2_with fail
            refine hbr.mono ?_
            rintro e w2 ⟨⟨set, rfl, hset⟩, b2⟩
            have HB2 := hide (HB1.out.trans (b2.mono HB1.out.size))
            clear b2 hbr
            simp only [brAns, Bool.not_false]
            go_wp2
            exact pcs_ret s _ _ _ _ _ _ w _ rfl rfl rfl HN.out rfl HB2.out
          · rw [ht] at hbr
            have hmI : (0 : Int) ≤ (m : Int) := by omega
            have HP := hide hp
            clear hp ht c1 c2 c3 c4
            go_wp2_with fail
            refine hbr.mono ?_
            rintro e w2 ⟨⟨set, rfl, hset⟩, b2⟩
            simp only [brAns, Bool.not_true]
            go_wp2_with fail
            refine (without_any set _ w2 (by omega) (by decide)).mono ?_
            rintro e w3 ⟨u, rfl, hu, b3⟩
            obtain ⟨W7, hW7, q1, ho7, b7, q3⟩ := box_over (by omega) HN1.out HNB.out HOWN1.out HB1.out (b2.trans (b3.mono b2.size)) (.int .i64 2) (.string u)
            have HO7 := hide ho7
            have HB7 := hide b7
            obtain ⟨d0, d1, df⟩ := zcells2 q3
            obtain ⟨f0, f1, ff⟩ := zcells2 q1
            clear ho7 b7 q1 q3 b2 b3 hbr
            have hs7 : w.heap.size ≤ W7.heap.size := HB7.out.size
            go_wp2_with (at_builtin; refine wpList_append_lies _ rfl (.tmp 88) (.tmp 90) 41 rfl w.heap.size 76 i0 _ 2 24 Tryd.u41 hi0 hz0 hz1 hz2 rfl (by decide) (.slice oa on oc) cnt xs rfl (HO7.out.alloc _) ⟨W7.heap.size, 0, none⟩ 1 1 [.int .i64 2, .string u] rfl rfl (news2 _ _ _ _) (by simp [Value.oneCell']) (by decide) hmaxl (by omega) (by simp; omega) _ rfl ?_; intro g7 c7 w7 hown7 hgr7 hat7 hlt7)
            exact ⟨⟨m, by simp, HNEXT.out m p _ _ w7 HP.out hm1 hm2 hown7 (grow_row2 HB7.out HO7.out hgr7)⟩, by simp [intOf]; omega⟩
      · have e1 := b_no c1 (x := 42) rfl
        have e2 := b_no c2 (x := 63) rfl
        have e3 := b_no c3 (x := 92) rfl
        have e4 := b_no c4 (x := 91) rfl
        obtain ⟨p, hp⟩ := pc_plain hj c1 c2 c3 c4
        have HP := hide hp
        clear c1 c2 c3 c4 hp
        go_wp2_with (at_builtin; refine wpList_append_lies _ rfl (.tmp 88) (.tmp 90) 41 rfl w.heap.size 76 i0 _ 2 24 Tryd.u41 hi0 hz0 hz1 hz2 rfl (by decide) (.slice oa on oc) cnt xs rfl (HOWN1.out.alloc _) ⟨W1.heap.size, 0, none⟩ 1 1 [.int .i64 0, .string (s.extract j (j + 1))] rfl rfl (news2 _ _ _ _) (by simp [Value.oneCell']) (by decide) hmaxl (by omega) (by simp; rw [HZ1.out]; omega) _ rfl ?_; intro g7 c7 w7 hown7 hgr7 hat7 hlt7)
        exact ⟨⟨j + 1, by simp, HNEXT.out (j + 1) p _ _ w7 HP.out (by omega) (by omega) hown7 (grow_row2 HB1.out HOWN1.out hgr7)⟩, by simp [intOf]; omega⟩
end Go.Proofs.YtiekhoehkgmbjaaDoor
