import Derived.Test.YtfemboojdablhaaGreatDoorMi18
import Derived.Great.BuildSlice
namespace Go.Proofs.YtfemboojdablhaaGreatDoor
open Go.RowKit Go.Maps
theorem fill_one (B0 : List Value) (cs : List Value) (hB : B0.length = 259) (hc : cs.length = 259) : Instr.fill (fun i => some (i * 259, 259)) B0.toArray [(0, .agg cs.toArray)] = some cs.toArray := by
  unfold Instr.fill
  show (if cs.toArray.size ≠ 259 || 0 * 259 + cs.toArray.size > B0.toArray.size then none else Instr.fill _ (cs.toArray.zipIdx.foldl (fun (z : Array Value) (x : Value × Nat) => z.setIfInBounds (0 * 259 + x.2) x.1) B0.toArray) []) = _
  rw [if_neg (by simp [hB, hc])]
  unfold Instr.fill
  congr 1
  rw [← Array.foldl_toList, Array.toList_zipIdx]
  rw [fold_arr, fold_off]
  have h3 := fold_set cs 0 [] B0 [] (by rw [hB, hc]) rfl
  simp only [List.nil_append, List.append_nil] at h3
  rw [show 0 * 259 + 0 = 0 from rfl]
  rw [h3]
theorem Tryz.info273' : (Tryz.prog.info? 273).map (fun i => (i.zero, i.size, i.bytes)) = some (some (.agg (pcL (.lit 0)).toArray), 259, 259) := by kernel_rfl
theorem Tryz.u216 : Tryz.prog.underlying 216 = some (.slice 273) := by kernel_rfl
def PsRow (B : Nat) (w : World) (v : Value) (ps : List PcD) : Prop := w.ownsRow B 273 259 v ps.length (ps.flatMap pcL)
theorem fill_any (B0 : Array Value) (cs : List Value) (hB : B0.size = 259) (hc : cs.length = 259) : Instr.fill (fun i => some (i * 259, 259)) B0 [(0, .agg cs.toArray)] = some cs.toArray := by
  obtain ⟨l⟩ := B0
  exact fill_one l cs (by simpa using hB) hc
theorem itemD_suf (esc : Bool) (l : List UInt8) : (itemD esc l).2 <:+ l := by
  match l with
  | [] => exact List.suffix_refl _
  | [c] => exact List.nil_suffix
  | c :: d :: r =>
    rw [itemD]
    split
    · exact ⟨[c, d], rfl⟩
    · exact ⟨[c], rfl⟩
theorem partD_suf (esc : Bool) (l : List UInt8) (S : BSet) (k : Bool) : (partD esc l S k).rest <:+ l := by
  unfold partD
  split
  · split <;> exact List.drop_suffix _ _
  · split
    · exact ((itemD_suf esc _).trans (List.tail_suffix _)).trans (itemD_suf esc l)
    · exact itemD_suf esc l
theorem brD_suf (esc : Bool) : ∀ (n : Nat) (first : Bool) (l : List UInt8) (S : BSet) (k : Bool) (p : PartD), brD esc n first l S k = some p → p.rest <:+ l := by
  intro n
  induction n with
  | zero => intro first l S k p h; rw [brD] at h; cases h
  | succ n ih =>
    intro first l S k p h
    match l, h with
    | c :: r, h =>
      rw [brD] at h
      split at h
      · cases h; exact ⟨[c], rfl⟩
      · exact (ih _ _ _ _ _ h).trans (partD_suf esc (c :: r) S k)
theorem bracketD_suf {esc : Bool} {no l : List UInt8} {p : PartD} (h : bracketD esc no l = some p) : p.rest <:+ l := by
  unfold bracketD at h
  match l, h with
  | c :: r, h =>
    simp only at h
    split at h
    · split at h
      · cases hb : brD esc (r.tail.length + 1) true r.tail (fun _ => false) true with
        | none => rw [hb] at h; cases h
        | some q =>
          rw [hb] at h
          cases h
          exact ((brD_suf _ _ _ _ _ _ _ hb).trans (List.tail_suffix _)).trans ⟨[c], rfl⟩
      · exact (brD_suf _ _ _ _ _ _ _ h).trans ⟨[c], rfl⟩
    · cases h
theorem pieceD_suf {l rest : List UInt8} {p : PcD} (h : pieceD l = .ok p rest) : rest <:+ l := by
  unfold pieceD at h
  match l, h with
  | c :: r, h =>
    simp only at h
    split at h
    · cases h; exact ⟨[c], rfl⟩
    · split at h
      · cases h; exact ⟨[c], rfl⟩
      · split at h
        · match r, h with
          | d :: r2, h => cases h; exact ⟨[c, d], rfl⟩
        · split at h
          · split at h
            · rename_i q hq
              split at h
              · cases h
                exact bracketD_suf hq
              · cases h
            · cases h; exact ⟨[c], rfl⟩
          · cases h; exact ⟨[c], rfl⟩
theorem pieceD_drop {s : List UInt8} {i : Nat} {p : PcD} {rest : List UInt8} (h : pieceD (s.drop i) = .ok p rest) : rest = s.drop (s.length - rest.length) :=
  List.suffix_iff_eq_drop.1 ((pieceD_suf h).trans (List.drop_suffix _ _))
theorem add_none (g j : Nat) : (⟨g, 0, none⟩ : Addr).add j = ⟨g, j, none⟩ := by unfold Addr.add; split <;> simp_all
theorem news_of (W : World) (p : PcD) : ∀ (j : Nat) (u : Value), (pcL p)[j]? = some u → (W.alloc (.cells (pcL p).toArray 273)).cell? ((⟨W.heap.size, 0, none⟩ : Addr).add j) = some u := fun j u hj => by
  rw [add_none]
  exact cells_new j u hj
theorem z259 : (Value.agg (pcL (.lit 0)).toArray).cells.size = 259 := by
  show (pcL (.lit 0)).toArray.size = 259
  rw [List.size_toArray, pcL_len]
theorem rng_size (f : Nat → Value) : ((Array.range (1 * 259)).map f).size = 259 := by rw [Array.size_map, Array.size_range]
def ReadIs (B : Nat) (s : ByteArray) (e : Ending) (w' : World) : Prop :=
  (200 < s.size ∧ e = .returned (.tuple #[.slice none 0 0, .int .i64 1, .int .i64 0])) ∨
  (s.size ≤ 200 ∧ ((∃ ps v, patD s.size s.data.toList = .ok ps ∧ ps.length ≤ 200 ∧ e = .returned (.tuple #[v, .int .i64 0, .int .i64 0]) ∧ PsRow B w' v ps) ∨
    (patD s.size s.data.toList = .text ∧ e = .returned (.tuple #[.slice none 0 0, .int .i64 2, .int .i64 (s.size : Int)])) ∨
    (∃ k, patD s.size s.data.toList = .range k ∧ e = .returned (.tuple #[.slice none 0 0, .int .i64 3, .int .i64 ((s.size - k : Nat) : Int)]))))
set_option maxRecDepth 100000 in
set_option maxHeartbeats 4000000 in
theorem read_any (s : ByteArray) (w : World) (hM : MaxW w) (h1 : 9 < w.heap.size) :
    Calls Tryz.prog 157 #[.string s] w fun e w' => ReadIs w.heap.size s e w' ∧ Below w.heap.size w w' := by
  by_cases hlong : 200 < s.size
  · have hlI : (200 : Int) < (s.size : Int) := by omega
    go_enter Tryz.func157, Tryz.ntmps157
    go_wp2
    exact bodyPost_ret (v := .tuple #[.slice none 0 0, .int .i64 1, .int .i64 0]) (by simp [results, Tryz.results157, go_sem]) rfl ⟨.inl ⟨hlong, rfl⟩, Below.refl _ _⟩
  · have hlI : ¬ ((200 : Int) < (s.size : Int)) := by omega
    have hs200 : s.size ≤ 200 := by omega
    obtain ⟨R, hR⟩ : ∃ R, patD s.size s.data.toList = R := ⟨_, rfl⟩
    have HR0 := hide hR
    clear hR hlong
    obtain ⟨i0, hi0, hz0, hz1, hz2⟩ := info_parts Tryz.info273'
    go_enter Tryz.func157, Tryz.ntmps157
    go_wp2
    go_loopw [5, 6] (fun ov iv wr => ∃ (i n : Nat) (ps : List PcD), iv = .int .i64 (i : Int) ∧ i ≤ s.size ∧ s.size - i ≤ n ∧ aheadD (patD n (s.data.toList.drop i)) ps = R ∧ ps.length ≤ i ∧ PsRow w.heap.size wr ov ps ∧ Below w.heap.size w wr) (fun _ iv _ => s.size - (intOf iv).toNat)
    case atStart => exact ⟨0, s.size, [], rfl, Nat.zero_le _, Nat.le_refl _, by rw [aheadD_nil]; exact HR0.out, Nat.le_refl _, ⟨rfl, .inl ⟨rfl, rfl⟩⟩, Below.refl _ _⟩
    case round =>
      obtain ⟨i, n, ps, rfl, hi, hn, hR, hpl, hrow, hb⟩ := hrel
      by_cases hlt : i < s.size
      · have hiI : (i : Int) < (s.size : Int) := by omega
        have hsub := sub_list s i
        have hsubs : (s.extract i s.size).size = s.size - i := by
          rw [← len_list, hsub, List.length_drop, len_list]
        have hbs := hb.size
        have hrp := readPiece_any (s.extract i s.size) wr (by omega) (by omega) (hM.below h1 hb) (by omega)
        rw [hsub] at hrp
        obtain ⟨n', rfl⟩ : ∃ n', n = n' + 1 := ⟨n - 1, by omega⟩
        have hne : s.data.toList.drop i ≠ [] := by rw [drop_cons hlt]; simp
        have hdl : (s.data.toList.drop i).length = s.size - i := by rw [List.length_drop, len_list]
        cases hp : pieceD (s.data.toList.drop i) with
        | text =>
          have hRt : R = .text := by rw [← hR, patD_text hne hp]; rfl
          have hv : pieceV (s.data.toList.drop i) = .tuple #[.agg (pcL (.lit 0)).toArray, .int .i64 0, .int .i64 2] := by unfold pieceV; rw [hp]
          rw [hv] at hrp
          obtain ⟨oa, on, oc, hov⟩ : ∃ a n c, u5 = .slice a n c := by
            rcases hrow.2 with ⟨e, _⟩ | ⟨g, cap, cur, e, _⟩ <;> exact ⟨_, _, _, e⟩
          subst hov
          have HROW := hide hrow
          have HB := hide hb
          clear hrow hb hR hsub hsubs hne hdl hp hv
          go_wp2_with fail
          refine hrp.mono ?_
          rintro e w2 ⟨rfl, b2⟩
          clear hrp
          have hz := zero112
          obtain ⟨W3, hW3⟩ : ∃ W3, w2.alloc (.cells (pcL (.lit 0)).toArray 273) = W3 := ⟨_, rfl⟩
          have hn3 : W3.heap[w2.heap.size]? = some (.cells (pcL (.lit 0)).toArray 273 (0, 0)) := by rw [← hW3]; exact World.alloc_heap_new w2 _
          have b23 : Below w2.heap.size w2 W3 := by rw [← hW3]; exact (Below.refl _ _).alloc (Nat.le_refl _) _
          have hst := st_blk hn3 (ys := pcL (.lit 0)) ((pcL_len _).trans (pcL_len _).symm) (pcL_one _)
          have hlx := pcL_len (.lit 0)
          obtain ⟨W4, hW4⟩ : ∃ W4, W3.setRow w2.heap.size (pcL (.lit 0)).toArray = W4 := ⟨_, rfl⟩
          have hg34 : W3.grownBy W4 (some w2.heap.size) := by rw [← hW4]; exact row_grown _ _ _
          have hn4 : W4.heap[w2.heap.size]? = some (.cells (pcL (.lit 0)).toArray 273 (0, 0)) := by rw [← hW4]; exact row_blk hn3 _
          rw [hW4] at hst
          have b24 : Below w2.heap.size w2 W4 := b23.grown hg34 b23.size (fun k e => by cases e; exact Nat.le_refl _)
          have br4 : Below wr.heap.size wr W4 := b2.trans (b24.mono b2.size)
          have HB4 := hide (HB.out.trans (br4.mono HB.out.size))
          clear hn3 b23 hW4 hg34 hn4 b24 br4 b2
          go_wp2
          exact bodyPost_ret (v := .tuple #[.slice none 0 0, .int .i64 2, .int .i64 (s.size : Int)]) (by simp [results, Tryz.results157, go_sem]) rfl ⟨.inr ⟨hs200, .inr (.inl ⟨HR0.out.trans hRt, rfl⟩)⟩, HB4.out⟩
        | range =>
          have hRt : R = .range (s.size - i) := by rw [← hR, patD_range hne hp, hdl]; rfl
          have hv : pieceV (s.data.toList.drop i) = .tuple #[.agg (pcL (.lit 0)).toArray, .int .i64 0, .int .i64 3] := by unfold pieceV; rw [hp]
          rw [hv] at hrp
          obtain ⟨oa, on, oc, hov⟩ : ∃ a n c, u5 = .slice a n c := by
            rcases hrow.2 with ⟨e, _⟩ | ⟨g, cap, cur, e, _⟩ <;> exact ⟨_, _, _, e⟩
          subst hov
          have HROW := hide hrow
          have HB := hide hb
          clear hrow hb hR hsub hsubs hne hdl hp hv
          go_wp2_with fail
          refine hrp.mono ?_
          rintro e w2 ⟨rfl, b2⟩
          clear hrp
          have hz := zero112
          obtain ⟨W3, hW3⟩ : ∃ W3, w2.alloc (.cells (pcL (.lit 0)).toArray 273) = W3 := ⟨_, rfl⟩
          have hn3 : W3.heap[w2.heap.size]? = some (.cells (pcL (.lit 0)).toArray 273 (0, 0)) := by rw [← hW3]; exact World.alloc_heap_new w2 _
          have b23 : Below w2.heap.size w2 W3 := by rw [← hW3]; exact (Below.refl _ _).alloc (Nat.le_refl _) _
          have hst := st_blk hn3 (ys := pcL (.lit 0)) ((pcL_len _).trans (pcL_len _).symm) (pcL_one _)
          have hlx := pcL_len (.lit 0)
          obtain ⟨W4, hW4⟩ : ∃ W4, W3.setRow w2.heap.size (pcL (.lit 0)).toArray = W4 := ⟨_, rfl⟩
          have hg34 : W3.grownBy W4 (some w2.heap.size) := by rw [← hW4]; exact row_grown _ _ _
          have hn4 : W4.heap[w2.heap.size]? = some (.cells (pcL (.lit 0)).toArray 273 (0, 0)) := by rw [← hW4]; exact row_blk hn3 _
          rw [hW4] at hst
          have b24 : Below w2.heap.size w2 W4 := b23.grown hg34 b23.size (fun k e => by cases e; exact Nat.le_refl _)
          have br4 : Below wr.heap.size wr W4 := b2.trans (b24.mono b2.size)
          have HB4 := hide (HB.out.trans (br4.mono HB.out.size))
          clear hn3 b23 hW4 hg34 hn4 b24 br4 b2
          have he : ((s.size - (s.size - i) : Nat) : Int) = (i : Int) := by omega
          have HE := hide he
          clear he
          go_wp2
          refine bodyPost_ret (v := .tuple #[.slice none 0 0, .int .i64 3, .int .i64 (i : Int)]) (by simp [results, Tryz.results157, go_sem]) rfl ⟨.inr ⟨hs200, .inr (.inr ⟨s.size - i, HR0.out.trans hRt, ?_⟩)⟩, HB4.out⟩
          rw [HE.out]
        | ok p rest =>
          have hrl := pieceD_rest hp
          have hv : pieceV (s.data.toList.drop i) = .tuple #[.agg (pcL p).toArray, .int .i64 ((s.size - i - rest.length : Nat) : Int), .int .i64 0] := by unfold pieceV; rw [hp]; simp only [hdl]
          have hRn : aheadD (patD n' rest) (ps ++ [p]) = R := by rw [← hR, aheadD_step ps hp]
          rw [hv] at hrp
          have hri : rest = s.data.toList.drop (s.size - rest.length) := pieceD_drop hp
          have hrl2 : rest.length < s.size - i := by rw [← hdl]; exact hrl
          have HRI := hide hri
          have HRN := hide hRn
          clear hri hRn
          have hlen : ((s.size - i - rest.length : Nat) : Int) = (s.size : Int) - (i : Int) - (rest.length : Int) := by omega
          rw [hlen] at hrp
          clear hlen
          obtain ⟨oa, on, oc, hov⟩ : ∃ a n c, u5 = .slice a n c := by
            rcases hrow.2 with ⟨e, _⟩ | ⟨g, cap, cur, e, _⟩ <;> exact ⟨_, _, _, e⟩
          subst hov
          have HROW := hide hrow
          have HB := hide hb
          clear hrow hb hR hsub hsubs hne hdl hp hv
          go_wp2_with fail
          refine hrp.mono ?_
          rintro e w2 ⟨rfl, b2⟩
          clear hrp
          have hz := zero112
          obtain ⟨W3, hW3⟩ : ∃ W3, w2.alloc (.cells (pcL (.lit 0)).toArray 273) = W3 := ⟨_, rfl⟩
          have hn3 : W3.heap[w2.heap.size]? = some (.cells (pcL (.lit 0)).toArray 273 (0, 0)) := by rw [← hW3]; exact World.alloc_heap_new w2 _
          have b23 : Below w2.heap.size w2 W3 := by rw [← hW3]; exact (Below.refl _ _).alloc (Nat.le_refl _) _
          have hst := st_blk hn3 (ys := pcL p) ((pcL_len _).trans (pcL_len _).symm) (pcL_one _)
          have hlx := pcL_len p
          obtain ⟨W4, hW4⟩ : ∃ W4, W3.setRow w2.heap.size (pcL p).toArray = W4 := ⟨_, rfl⟩
          have hg34 : W3.grownBy W4 (some w2.heap.size) := by rw [← hW4]; exact row_grown _ _ _
          have hn4 : W4.heap[w2.heap.size]? = some (.cells (pcL p).toArray 273 (0, 0)) := by rw [← hW4]; exact row_blk hn3 _
          rw [hW4] at hst
          have b24 : Below w2.heap.size w2 W4 := b23.grown hg34 b23.size (fun k e => by cases e; exact Nat.le_refl _)
          have br4 : Below wr.heap.size wr W4 := b2.trans (b24.mono b2.size)
          have HB4 := hide (HB.out.trans (br4.mono HB.out.size))
          have hownr : W4.ownsRow w.heap.size 273 259 (.slice oa on oc) ps.length (ps.flatMap pcL) := HROW.out.kept (grown_of_below br4) (by cases hq : (Value.slice oa on oc).ownBlock with | none => exact .inl rfl | some x => exact .inr (by simp))
          have HOWN := hide hownr
          have HN4 := hide hn4
          have hsz4 := HB4.out.size
          clear hn3 b23 hW4 hg34 hn4 b24 br4 b2 hownr
          have hnews := fun W => news_of W p
          have HNEWS := hide hnews
          clear hnews
          go_wp2_with first
            | (show wpList _ _ _ (Oper.mk _ (Op.load 273 _) _ _ _ _ :: _) _ _; refine wpList_load_row rfl 273 (.tmp 7) rfl w2.heap.size rfl 273 _ (0, 0) _ HN4.out Tryz.underlying273 rfl (by rw [Tryz.size273]; simp [hlx]) ?_)
            | (show wpList _ _ _ (Oper.mk _ (Op.buildSlice 216 _ _) _ _ _ _ :: _) _ _; refine wpList_buildSlice rfl 216 273 1 _ rfl (pcL p).toArray i0 _ Tryz.u216 hi0 hz0 (by rw [hz1]; decide) (by rw [hz1]; decide) (by rw [hz1]; simp only [List.map_toArray, List.map_cons, List.map_nil]; exact fill_any _ _ (rng_size _) hlx) ?_)
            | (at_builtin; refine wpList_append_lies _ rfl (.tmp 35) (.tmp 37) 216 rfl w.heap.size 273 i0 _ 259 259 Tryz.u216 hi0 hz0 hz1 hz2 z259 (by decide) (.slice oa on oc) ps.length (ps.flatMap pcL) rfl (HOWN.out.alloc _) ⟨W4.heap.size, 0, none⟩ 1 1 (pcL p) rfl (by rw [hlx]) (HNEWS.out _) (pcL_one p) (by decide) (by unfold maxLen; omega) (by omega) (by simp; omega) _ rfl ?_; intro g1 c1 w5 hown5 hgr5 hat5 hlt5)
          go_roundw
          case rel =>
            have hgw : W4.grownBy w5 (Value.slice oa on oc).ownBlock := (World.grownBy_alloc W4 (.cells (pcL p).toArray 273) _).trans hgr5
            have hbw : Below w.heap.size w w5 := HB4.out.grown hgw HB4.out.size (fun k e => by
              rcases HROW.out.2 with ⟨e2, _⟩ | ⟨g', cap, cur, e2, hbb, _⟩
              · rw [e2] at e; cases e
              · rw [e2] at e; cases e; exact hbb)
            refine ⟨s.size - rest.length, n', ps ++ [p], ?_, by omega, by omega, ?_, by simp; omega, ?_, hbw⟩
            · congr 1; omega
            · have e := HRI.out
              rw [← e]
              exact HRN.out
            · unfold PsRow
              rw [List.length_append, List.flatMap_append, List.flatMap_singleton]
              exact hown5
          case measure => simp [intOf]; omega
      · have hiI : ¬ ((i : Int) < (s.size : Int)) := by omega
        have hdr : s.data.toList.drop i = [] := List.drop_of_length_le (by rw [len_list]; omega)
        have hRe : R = .ok ps := by
          rw [← hR, hdr]
          have : patD n [] = .ok [] := by cases n <;> rfl
          rw [this]
          show PatD.ok (ps ++ []) = _
          rw [List.append_nil]
        obtain ⟨oa, on, oc, hov⟩ : ∃ a n c, u5 = .slice a n c := by
          rcases hrow.2 with ⟨e, _⟩ | ⟨g, cap, cur, e, _⟩ <;> exact ⟨_, _, _, e⟩
        subst hov
        go_wp2
        exact bodyPost_ret (v := .tuple #[.slice oa on oc, .int .i64 0, .int .i64 0]) (by simp [results, Tryz.results157, go_sem]) rfl ⟨.inr ⟨hs200, .inl ⟨ps, _, HR0.out.trans hRe, by omega, rfl, hrow⟩⟩, hb⟩
end Go.Proofs.YtfemboojdablhaaGreatDoor
