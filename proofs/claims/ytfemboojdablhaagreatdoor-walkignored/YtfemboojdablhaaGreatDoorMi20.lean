/- Merged: GbMatch, IgB. -/
import Derived.Test.YtfemboojdablhaaGreatDoorMi19
import Derived.Test.YtfemboojdablhaaGreatDoorMi09
import Derived.Test.YtfemboojdablhaaGreatDoorMi12
namespace Go.Proofs.YtfemboojdablhaaGreatDoor
open Go.RowKit Go.Maps
theorem flat_at : ∀ (ps : List PcD) (i j : Nat) (p : PcD) (u : Value), ps[i]? = some p → (pcL p)[j]? = some u → (ps.flatMap pcL)[i * 259 + j]? = some u := by
  intro ps
  induction ps with
  | nil => intro i j p u h; simp at h
  | cons q qs ih =>
    intro i j p u h hu
    rw [List.flatMap_cons]
    cases i with
    | zero =>
      have hjl := (List.getElem?_eq_some_iff.1 hu).1
      simp at h
      subst h
      rw [Nat.zero_mul, Nat.zero_add, List.getElem?_append_left hjl]
      exact hu
    | succ i =>
      rw [List.getElem?_append_right (by rw [pcL_len]; omega), pcL_len]
      have e : (i + 1) * 259 + j - 259 = i * 259 + j := by omega
      rw [e]
      exact ih i j p u (by simpa using h) hu
theorem PsRow.pc {B : Nat} {w : World} {g c n : Nat} {ps : List PcD} (h : PsRow B w (.slice (some ⟨g, 0, none⟩) n c) ps) {i : Nat} {p : PcD} (hp : ps[i]? = some p) : PcAt w g (i * 259) p := by
  intro j u hu
  have hf := flat_at ps i j p u hp hu
  rcases h.2 with ⟨e, _⟩ | ⟨g', c', cur, e, _, hg, _, _, _, hct⟩
  · cases e
  · cases e
    rw [cell_of_row _ _ _ _ _ _ hg]
    rw [← hct, List.getElem?_take] at hf
    split at hf
    · rw [Array.getElem?_toList] at hf
      exact hf
    · cases hf
theorem PsRow.form {B : Nat} {w : World} {v : Value} {ps : List PcD} (h : PsRow B w v ps) : (v = .slice none 0 0 ∧ ps = []) ∨ ∃ g c, v = .slice (some ⟨g, 0, none⟩) ps.length c ∧ ps.length ≤ c ∧ g < w.heap.size ∧ B ≤ g := by
  rcases h.2 with ⟨e, h0⟩ | ⟨g, c, cur, e, hb, hg, hc, _⟩
  · exact .inl ⟨e, List.eq_nil_of_length_eq_zero h0⟩
  · exact .inr ⟨g, c, e, hc, (Array.getElem?_eq_some_iff.1 hg).1, hb⟩
def MeanIs (w : World) (way : Bool) (ps : List PcD) (i : Nat) (mv : Value) (xs : List Value) (wr : World) : Prop :=
  Box28 wr (w.heap.size + 1) 3 ⟨#[]⟩ mv ∧ Box28 wr w.heap.size 0 ⟨#[]⟩ (.slice none 0 0) ∧ wr.ownsRow (w.heap.size + 2) 163 3 mv i xs ∧ KRow (fun k => (w.heap.size + 2 ≤ k ∧ k < wr.heap.size) ∧ mv.ownBlock ≠ some k) wr xs ((ps.map (exprD way)).take i) ∧ Below w.heap.size w wr
set_option maxRecDepth 100000 in
set_option maxHeartbeats 4000000 in
theorem meaning_any (ps : List PcD) (way : Bool) (v : Value) (B : Nat) (w : World) (h : PsRow B w v ps) (hlen : ps.length ≤ 200) :
    Calls Tryz.prog 158 #[v, .bool way] w fun e w' => ∃ v', e = .returned (.agg #[.int .i64 3, .string ⟨#[]⟩, v']) ∧ KidsIn (New w w') w' v' (ps.map (exprD way)) ∧ Below w.heap.size w w' := by
  obtain ⟨p, c, hv⟩ : ∃ p c, v = .slice p ps.length c := by
    rcases h.form with ⟨e, e2⟩ | ⟨g, c, e, _⟩
    · exact ⟨_, _, by rw [e, e2]; rfl⟩
    · exact ⟨_, _, e⟩
  subst hv
  have HP := hide h
  clear h
  go_enter Tryz.func158, Tryz.ntmps158
  go_wp2
  go_loopw [10] (fun iv wr => ∃ (i : Nat) (mv : Value) (xs : List Value), iv = .int .i64 (i : Int) ∧ i ≤ ps.length ∧ MeanIs w way ps i mv xs wr) (fun iv _ => ps.length - (intOf iv).toNat)
  case atStart =>
    refine ⟨0, .slice none 0 0, [], rfl, Nat.zero_le _, ?_, ?_, ⟨rfl, .inl ⟨rfl, rfl⟩⟩, fun j k hj => (by simp at hj), ((Below.refl _ _).alloc (Nat.le_refl _) _).alloc (by rw [World.size_alloc]; omega) _⟩
    · have := World.alloc_heap_new (w.alloc (.cells #[.int .i64 0, .string ⟨#[]⟩, .slice none 0 0] 163)) (.cells #[.int .i64 3, .string ⟨#[]⟩, .slice none 0 0] 163)
      rw [World.size_alloc] at this
      exact this
    · have := World.alloc_heap_new w (.cells #[.int .i64 0, .string ⟨#[]⟩, .slice none 0 0] 163)
      exact (Below.heap_alloc _ _ w.heap.size (by rw [World.size_alloc]; omega)).trans this
  case round =>
    obtain ⟨i, mv, xs, rfl, hi, hm⟩ := hrel
    by_cases hlt : i < ps.length
    · have hiI : (i : Int) < (ps.length : Int) := by omega
      obtain ⟨g, c', hpe, hck, hgs, hBg⟩ : ∃ g c', p = some ⟨g, 0, none⟩ ∧ ps.length ≤ c' ∧ g < w.heap.size ∧ c = c' := by
        rcases HP.out.form with ⟨_, e⟩ | ⟨g, c', e, h1, h2, _⟩
        · rw [e] at hlt; simp at hlt
        · cases e; exact ⟨g, c, rfl, h1, h2, rfl⟩
      subst hpe hBg
      obtain ⟨hbx, hzx, hown, hrow, hb⟩ := hm
      have hpi : ps[i]? = some (ps[i]'hlt) := List.getElem?_eq_getElem hlt
      have hpc : PcAt wr.drew g (i * 259) (ps[i]'hlt) := (HP.out.pc hpi).below hb.drew hgs
      have hbs := hb.size
      have HEX := hide (expr_any g (i * 259) (ps[i]'hlt) way wr.drew hpc (by show g < wr.heap.size; omega))
      obtain ⟨i0, hi0, z0, z1, z2⟩ := info_parts Tryz.info163
      obtain ⟨la, lc, rfl⟩ := own3_shape hown
      obtain ⟨_, _, c2⟩ := hbx.cells
      have cf2 : wr.frozen? ⟨w.heap.size + 1, 2, none⟩ = false := (zcells hbx).2.2.2 2
      have hblt : w.heap.size + 1 < wr.heap.size := (Array.getElem?_eq_some_iff.1 hbx).1
      have hnb : (Value.slice la i lc).ownBlock ≠ some (w.heap.size + 1) := fun e => by have := (own_cells hown e).1; omega
      have HALL : Hid (Box28 wr (w.heap.size + 1) 3 ⟨#[]⟩ (.slice la i lc) ∧ Box28 wr w.heap.size 0 ⟨#[]⟩ (.slice none 0 0) ∧ wr.ownsRow (w.heap.size + 2) 163 3 (.slice la i lc) i xs ∧ KRow (fun k => (w.heap.size + 2 ≤ k ∧ k < wr.heap.size) ∧ (Value.slice la i lc).ownBlock ≠ some k) wr xs ((ps.map (exprD way)).take i) ∧ Below w.heap.size w wr) := ⟨hbx, hzx, hown, hrow, hb⟩
      have HPI := hide hpi
      clear hbx hzx hown hrow hb hpc hpi hbs
      go_wp2
      have hsz112 := Tryz.size273
      refine (fun (KEY : ∀ (op : Int) (t : ByteArray) (pa : Option Addr) (pc g7 cap7 : Nat) (q : List ExprD) (w6 w7 : World), (t.size ≤ 1000 ∧ exprD way (ps[i]'hlt) = .mk op t.data.toList q ∧ KidsIn (New wr w6) w6 (.slice pa q.length pc) q ∧ Below wr.heap.size wr w6 ∧ w7.ownsRow (w.heap.size + 2) 163 3 (.slice (some ⟨g7, 0, none⟩) (i + 1) cap7) (i + 1) (xs ++ [.int .i64 op, .string t, .slice pa q.length pc]) ∧ (w6.alloc (.cells #[.int .i64 op, .string t, .slice pa q.length pc] 163)).grownBy w7 (Value.slice la i lc).ownBlock ∧ ((Value.slice la i lc).ownBlock = some g7 ∨ g7 = (w6.alloc (.cells #[.int .i64 op, .string t, .slice pa q.length pc] 163)).heap.size)) → (?G2 : Int → ByteArray → Option Addr → Nat → Nat → Nat → List ExprD → World → World → Prop) op t pa pc g7 cap7 q w6 w7) => ?main2) ?key2
      case main2 =>
        go_region_law (first
          | (refine step_calls rfl 194 #[.tmp 17, .tmp 18] #[273, 4] rfl #[.pointer (some ⟨g, i * 259, none⟩), .bool way] (by simp only [List.map_toArray, List.map_cons, List.map_nil]; rfl) (enters_of Tryz.func194 (by kernel_rfl) rfl) (unhide HEX) ?_; rintro e w6 ⟨op, t, kv, q, rfl, hts, hke, hkin, hb6'⟩; have hb6 : Below wr.heap.size wr w6 := ⟨hb6'.os, hb6'.tape, hb6'.output, hb6'.size, hb6'.block⟩; obtain ⟨pa, pc, hpv⟩ := kin_shape hkin; subst hpv; refine ⟨_, rfl, ?_⟩; have c26 : w6.cell? ⟨w.heap.size + 1, 2, none⟩ = some (.slice la i lc) := (hb6.cell (p := ⟨w.heap.size + 1, 2, none⟩) hblt).trans c2; have f26 : w6.frozen? ⟨w.heap.size + 1, 2, none⟩ = false := (hb6.frozen (p := ⟨w.heap.size + 1, 2, none⟩) hblt).trans cf2; have c26a : (w6.alloc (.cells #[.int .i64 op, .string t, .slice pa q.length pc] 163)).cell? ⟨w.heap.size + 1, 2, none⟩ = some (.slice la i lc) := (((Below.refl w6.heap.size w6).alloc (Nat.le_refl _) _).cell (p := ⟨w.heap.size + 1, 2, none⟩) (Nat.lt_of_lt_of_le hblt hb6.size)).trans c26; have hy6 : w6.ownsRow (w.heap.size + 2) 163 3 (.slice la i lc) i xs := own_below (unhide HALL).2.2.1 hb6)
          | (refine step_append_lies _ rfl (.tmp 14) (.tmp 20) 161 rfl (w.heap.size + 2) 163 i0 _ 3 48 Tryz.underlying161' hi0 z0 z1 z2 rfl (by decide) (.slice la i lc) i xs rfl (hy6.alloc _) ⟨w6.heap.size, 0, none⟩ 1 1 [.int .i64 op, .string t, .slice pa q.length pc] rfl rfl (news_at _ _ rfl _ _ _ _) (by simp [Value.oneCell']) (by decide) (by unfold maxLen; omega) (by omega) (by have := hb6.size; simp; omega) _ rfl ?_; intro g7 cap7 w7 hown7 hg7 hat7 hlt7; obtain ⟨c27, f27⟩ := far_cell hg7 hblt hb6 hnb c26 f26))
        all_goals exact KEY op t pa pc g7 cap7 q w6 w7 ⟨hts, hke, hkin, hb6, hown7, hg7, hat7⟩
      case key2 =>
        rintro op t pa pc g7 cap7 q w6 w7 ⟨hts, hke, hkin, hb6, hown7, hg7, hat7⟩
        obtain ⟨hbx, hzx, hown, hrow, hb⟩ := HALL.out
        have hal6 : Below w6.heap.size w6 (w6.alloc (.cells #[.int .i64 op, .string t, .slice pa q.length pc] 163)) := (Below.refl _ _).alloc (Nat.le_refl _) _
        have hsa : (w6.alloc (.cells #[.int .i64 op, .string t, .slice pa q.length pc] 163)).heap.size = w6.heap.size + 1 := by rw [World.size_alloc]
        rw [hsa] at hat7
        have hs7 : w6.heap.size + 1 ≤ w7.heap.size := by have := hg7.size; omega
        have h6s := hb6.size
        have hbs := hb.size
        have hlo : ∀ k, (Value.slice la i lc).ownBlock = some k → w.heap.size + 2 ≤ k ∧ k < wr.heap.size := fun k hk => ⟨(own_cells hown hk).1, own_lt hown hk⟩
        have hbx7 : ∀ k, k < w6.heap.size → (Value.slice la i lc).ownBlock ≠ some k → w7.heap[k]? = w6.heap[k]? := fun k hk hne => (hg7.block k (by omega) (fun e => hne e.symm)).trans (hal6.block k hk)
        obtain ⟨W8, hW8⟩ : ∃ W8, w7.setCell ⟨w.heap.size + 1, 2, none⟩ (.slice (some ⟨g7, 0, none⟩) (i + 1) cap7) = W8 := ⟨_, rfl⟩
        have hset8 : w7.grownBy W8 (some (w.heap.size + 1)) := by rw [← hW8]; exact set_grown _ _ _ _
        have hs8 : w7.heap.size ≤ W8.heap.size := hset8.size
        have hx7 : Box28 w7 (w.heap.size + 1) 3 ⟨#[]⟩ (.slice la i lc) := (hbx7 _ (by omega) hnb).trans ((hb6.block _ hblt).trans hbx)
        have hx8 : Box28 W8 (w.heap.size + 1) 3 ⟨#[]⟩ (.slice (some ⟨g7, 0, none⟩) (i + 1) cap7) := by
          rw [← hW8]
          obtain ⟨hl, hk⟩ := Array.getElem?_eq_some_iff.1 hx7
          show (w7.heap.modify (w.heap.size + 1) _)[w.heap.size + 1]? = _
          rw [Array.getElem?_eq_getElem (by rw [Array.size_modify]; exact hl), Array.getElem_modify_self, hk]
          rfl
        have hk8 : ∀ k, k < w6.heap.size → (Value.slice la i lc).ownBlock ≠ some k → k ≠ w.heap.size + 1 → W8.heap[k]? = w6.heap[k]? := fun k hk hne hn1 => (hset8.block k (by omega) (fun e => hn1 (Option.some.inj e))).trans (hbx7 k hk hne)
        have hz8 : Box28 W8 w.heap.size 0 ⟨#[]⟩ (.slice none 0 0) := (hk8 _ (by omega) (fun e => by have := (hlo _ e).1; omega) (by omega)).trans ((hb6.block _ (by omega)).trans hzx)
        have hown8 : W8.ownsRow (w.heap.size + 2) 163 3 (.slice (some ⟨g7, 0, none⟩) (i + 1) cap7) (i + 1) (xs ++ [.int .i64 op, .string t, .slice pa q.length pc]) := row_keep hown7 (fun k c hk e => (hset8.block k (Array.getElem?_eq_some_iff.1 hk).1 (fun e2 => by have := (own_cells hown7 e).1; have := Option.some.inj e2; omega)).trans hk)
        have hnb7 : ∀ k, k < w6.heap.size → (Value.slice la i lc).ownBlock ≠ some k → (Value.slice (some ⟨g7, 0, none⟩) (i + 1) cap7).ownBlock ≠ some k := fun k hk hne e => by
          have e' : g7 = k := Option.some.inj e
          rcases hat7 with h | h
          · exact hne (e' ▸ h)
          · omega
        have hb8 : Below w.heap.size w W8 := by
          refine hb.trans ⟨?_, ?_, ?_, by omega, fun k hk => ?_⟩
          · exact hset8.os.trans (hg7.os.trans (hal6.os.trans hb6.os))
          · exact hset8.tape.trans (hg7.tape.trans (hal6.tape.trans hb6.tape))
          · exact hset8.output.trans (hg7.output.trans (hal6.output.trans hb6.output))
          · exact (hk8 k (by omega) (fun e => by have := (hlo k e).1; omega) (by omega)).trans (hb6.block k (by omega))
        have htk : (ps.map (exprD way)).take (i + 1) = (ps.map (exprD way)).take i ++ [.mk op t.data.toList q] := by
          rw [List.take_succ_eq_append_getElem (by rw [List.length_map]; exact hlt), List.getElem_map, hke]
        have hxl : xs.length = i * 3 := hown.1
        have hrow8 : KRow (fun k => (w.heap.size + 2 ≤ k ∧ k < W8.heap.size) ∧ (Value.slice (some ⟨g7, 0, none⟩) (i + 1) cap7).ownBlock ≠ some k) W8 (xs ++ [.int .i64 op, .string t, .slice pa q.length pc]) ((ps.map (exprD way)).take (i + 1)) := by
          rw [htk]
          refine KRow.snoc (hrow.keep (fun k hk => ⟨⟨hk.1.1, by have := hk.1.2; omega⟩, hnb7 k (by have := hk.1.2; omega) hk.2⟩) (fun k hk => ?_)) (by rw [List.length_take, List.length_map]; omega) (by omega) (hkin.keep (fun k hk => ⟨⟨by have := hk.1; omega, by have := hk.2; omega⟩, hnb7 k hk.2 (fun e => by have := (hlo k e).2; have := hk.1; omega)⟩) (fun k hk => hk8 k hk.2 (fun e => by have := (hlo k e).2; have := hk.1; omega) (by have := hk.1; omega)))
          exact (hk8 k (by have := hk.1.2; omega) hk.2 (by have := hk.1.1; omega)).trans (hb6.block k hk.1.2)
        have HM8 : Hid (MeanIs w way ps (i + 1) (.slice (some ⟨g7, 0, none⟩) (i + 1) cap7) (xs ++ [.int .i64 op, .string t, .slice pa q.length pc]) W8) := ⟨hx8, hz8, hown8, hrow8, hb8⟩
        try rw [hW8]
        clear hx8 hz8 hown8 hrow8 hb8 htk hxl hk8 hx7 hset8 hs8 hbx7 hal6 hsa hat7 hs7 hW8 hbx hzx hown hrow hb hkin hb6 hown7 hg7 h6s hbs hke hlo hnb7 HALL HEX
        go_wp2
        go_roundw
        case rel => exact ⟨i + 1, _, _, by simp, by omega, HM8.out⟩
        case measure => simp [intOf]; omega
    · have hie : i = ps.length := by omega
      subst hie
      have hiI : ¬ ((ps.length : Int) < (ps.length : Int)) := by omega
      obtain ⟨hbx, hzx, hown, hrow, hb⟩ := hm
      have htl : (ps.map (exprD way)).take ps.length = ps.map (exprD way) := List.take_of_length_le (by rw [List.length_map]; exact Nat.le_refl _)
      rw [htl] at hrow
      have hfin : KidsIn (fun k => w.heap.size + 2 ≤ k ∧ k < wr.heap.size) wr mv (ps.map (exprD way)) := KRow.kids (S := fun k => w.heap.size + 2 ≤ k ∧ k < wr.heap.size) (hrow.keep (fun k hk => hk.1) (fun k _ => rfl)) hown (by rw [List.length_map]) (fun g hg => ⟨(own_cells hown hg).1, own_lt hown hg⟩)
      obtain ⟨la, lc, rfl⟩ := own3_shape hown
      obtain ⟨c0, c1, c2⟩ := hbx.cells
      obtain ⟨q0, q1, q2, qf⟩ := zcells hzx
      obtain ⟨hz7, hb7⟩ := set3 hzx (.int .i64 3) (.string ⟨#[]⟩) (.slice la ps.length lc)
      obtain ⟨W7, hW7⟩ : ∃ W7, ((wr.setCell ⟨w.heap.size, 0, none⟩ (.int .i64 3)).setCell ⟨w.heap.size, 1, none⟩ (.string ⟨#[]⟩)).setCell ⟨w.heap.size, 2, none⟩ (.slice la ps.length lc) = W7 := ⟨_, rfl⟩
      rw [hW7] at hz7 hb7
      have hsz7 : wr.heap.size = W7.heap.size := by rw [← hW7, set_size, set_size, set_size]
      have hbel : Below w.heap.size w W7 := ⟨by rw [← hW7]; exact hb.os, by rw [← hW7]; exact hb.tape, by rw [← hW7]; exact hb.output, by rw [← hsz7]; exact hb.size, fun k hk => (hb7 k (by omega)).trans (hb.block k hk)⟩
      have HF : Hid (KidsIn (New w W7) W7 (.slice la ps.length lc) (ps.map (exprD way))) := hfin.keep (fun k hk => ⟨by have := hk.1; omega, by rw [← hsz7]; exact hk.2⟩) (fun k hk => hb7 k (by have := hk.1; omega))
      have HZ7 := hide hz7
      have HBEL := hide hbel
      clear hrow hfin hown hb hzx hbx htl hz7 hb7 hsz7 hbel
      go_wp2
      try rw [hW7]
      obtain ⟨e0, e1, e2, _⟩ := zcells HZ7.out
      exact bodyPost_ret (v := .agg #[.int .i64 3, .string ⟨#[]⟩, .slice la ps.length lc]) (by simp [results, Tryz.results158, go_sem, e0, e1, e2]) rfl ⟨_, rfl, HF.out, HBEL.out⟩
end Go.Proofs.YtfemboojdablhaaGreatDoor
namespace Go.Proofs.YtfemboojdablhaaGreatDoor
open Go.RowKit Go.Maps
def wrongD (s : ByteArray) : Nat := if 200 < s.size then 1 else match patD s.size s.data.toList with
  | .ok _ => 0
  | .text => 2
  | .range _ => 3
theorem wrongD_ok {s : ByteArray} {ps : List PcD} (h : s.size ≤ 200) (hp : patD s.size s.data.toList = .ok ps) : wrongD s = 0 := by
  unfold wrongD
  rw [if_neg (by omega), hp]
theorem read_two {B : Nat} {s : ByteArray} {e : Ending} {w' : World} (h : ReadIs B s e w') :
    (∃ ps v, wrongD s = 0 ∧ patD s.size s.data.toList = .ok ps ∧ ps.length ≤ 200 ∧ e = .returned (.tuple #[v, .int .i64 0, .int .i64 0]) ∧ PsRow B w' v ps) ∨
    (∃ (n : Nat) (pl : Int), wrongD s = n ∧ n ≠ 0 ∧ e = .returned (.tuple #[.slice none 0 0, .int .i64 (n : Int), .int .i64 pl])) := by
  rcases h with ⟨h, e⟩ | ⟨h, ⟨ps, v, hp, hl, e, hr⟩ | ⟨hp, e⟩ | ⟨k, hp, e⟩⟩
  · exact .inr ⟨1, 0, by unfold wrongD; rw [if_pos h], by decide, e⟩
  · exact .inl ⟨ps, v, wrongD_ok h hp, hp, hl, e, hr⟩
  · exact .inr ⟨2, _, by unfold wrongD; rw [if_neg (by omega), hp], by decide, e⟩
  · exact .inr ⟨3, _, by unfold wrongD; rw [if_neg (by omega), hp], by decide, e⟩
theorem wt_exprD (way : Bool) (p : PcD) : wt (exprD way p) ≤ 3 := by
  cases p with
  | lit c => simp [exprD, wt, wtL]
  | wild m S => cases m <;> simp [exprD, wt, wtL]
theorem wt_mean (way : Bool) (ps : List PcD) (h : ps.length ≤ 200) : wt (meanD way ps) ≤ 10000000 := by
  have hs : ∀ qs : List PcD, wtL (qs.map (exprD way)) ≤ qs.length * 4 := by
    intro qs
    induction qs with
    | nil => simp [wtL]
    | cons q qs ih =>
      rw [List.map_cons, wtL, List.length_cons]
      have := wt_exprD way q
      omega
  have := hs ps
  unfold meanD
  rw [wt]
  omega
set_option maxRecDepth 100000 in
set_option maxHeartbeats 4000000 in
theorem parse_any (s : ByteArray) (way : Bool) (w : World) (hM : MaxW w) (h1 : 9 < w.heap.size) :
    Calls Tryz.prog 130 #[.string s, .bool way] w fun e w' => ∃ op v ks pl, e = .returned (.tuple #[.agg #[.int .i64 op, .string ⟨#[]⟩, v], .int .i64 (wrongD s : Int), .int .i64 pl]) ∧ KidsIn (New w w') w' v ks ∧ wt (.mk op [] ks) ≤ 10000000 ∧ (wrongD s = 0 → ∃ ps, patD s.size s.data.toList = .ok ps ∧ .mk op [] ks = meanD way ps) ∧ Below w.heap.size w w' := by
  obtain ⟨W1, hW1⟩ : ∃ W1, w.alloc (.cells #[.int .i64 0, .string ⟨#[]⟩, .slice none 0 0] 163) = W1 := ⟨_, rfl⟩
  have z1 : W1.heap.size = w.heap.size + 1 := by rw [← hW1, World.size_alloc]
  have b1 : Below w.heap.size w W1 := by rw [← hW1]; exact (Below.refl _ _).alloc (Nat.le_refl _) _
  have hr1 : W1.heap[w.heap.size]? = some (.cells #[.int .i64 0, .string ⟨#[]⟩, .slice none 0 0] 163 (0, 0)) := by rw [← hW1]; exact World.alloc_heap_new w _
  have hrd := read_any s W1 (hM.below h1 b1) (by omega)
  have HZ1 := hide z1
  have HB1 := hide b1
  have HR1 := hide hr1
  clear z1 b1 hr1 hM
  go_enter Tryz.func130, Tryz.ntmps130
  go_wp2_with fail
  refine hrd.mono ?_
  rintro e w2 ⟨hread, b2⟩
  have hr2 : w2.heap[w.heap.size]? = some (.cells #[.int .i64 0, .string ⟨#[]⟩, .slice none 0 0] 163 (0, 0)) := (b2.block _ (by rw [HZ1.out]; omega)).trans HR1.out
  have b02 : Below w.heap.size w w2 := HB1.out.trans (b2.mono HB1.out.size)
  have s2 : w.heap.size + 1 ≤ w2.heap.size := by have := b2.size; rw [HZ1.out] at this; exact this
  rcases read_two hread with ⟨ps, v, he, hp, hl, rfl, hrow⟩ | ⟨n, pl, he, hn, rfl⟩
  · have hme := meaning_any ps way v _ w2 hrow hl
    obtain ⟨va, vn, vc, rfl⟩ : ∃ a n c, v = .slice a n c := by
      rcases hrow.form with ⟨e, _⟩ | ⟨g, c, e, _⟩ <;> exact ⟨_, _, _, e⟩
    have HE := hide he
    have HPD := hide hp
    have HB02 := hide b02
    have HR2 := hide hr2
    clear hread hrow b2 he hp b02 hr2 hrd
    go_wp2_with fail
    refine hme.mono ?_
    rintro e w3 ⟨kv, rfl, hkin, b3⟩
    obtain ⟨ka, kn, kc, rfl⟩ : ∃ a n c, kv = .slice a n c := by
      obtain ⟨ka, kc, e⟩ := kin_shape hkin
      exact ⟨_, _, _, e⟩
    have hr3 : w3.heap[w.heap.size]? = some (.cells #[.int .i64 0, .string ⟨#[]⟩, .slice none 0 0] 163 (0, 0)) := (b3.block _ (by omega)).trans HR2.out
    obtain ⟨q0, q1, q2, qf⟩ := zcells hr3
    obtain ⟨hz7, hb7⟩ := set3 hr3 (.int .i64 3) (.string ⟨#[]⟩) (.slice ka kn kc)
    obtain ⟨W7, hW7⟩ : ∃ W7, ((w3.setCell ⟨w.heap.size, 0, none⟩ (.int .i64 3)).setCell ⟨w.heap.size, 1, none⟩ (.string ⟨#[]⟩)).setCell ⟨w.heap.size, 2, none⟩ (.slice ka kn kc) = W7 := ⟨_, rfl⟩
    rw [hW7] at hz7 hb7
    have hsz7 : w3.heap.size = W7.heap.size := by rw [← hW7, set_size, set_size, set_size]
    have b03 : Below w.heap.size w w3 := HB02.out.trans (b3.mono HB02.out.size)
    have hbel : Below w.heap.size w W7 := ⟨by rw [← hW7]; exact b03.os, by rw [← hW7]; exact b03.tape, by rw [← hW7]; exact b03.output, by rw [← hsz7]; exact b03.size, fun k hk => (hb7 k (by omega)).trans (b03.block k hk)⟩
    have HF : Hid (KidsIn (New w W7) W7 (.slice ka kn kc) (ps.map (exprD way))) := hkin.keep (fun k hk => ⟨by have := hk.1; omega, by rw [← hsz7]; exact hk.2⟩) (fun k hk => hb7 k (by have := hk.1; omega))
    have HZ7 := hide hz7
    have HBEL := hide hbel
    clear hkin b3 hr3 hz7 hb7 hsz7 b03 hbel hme
    go_wp2
    try rw [hW7]
    obtain ⟨e0, e1, e2, _⟩ := zcells HZ7.out
    have hEE := HE.out
    exact bodyPost_ret (v := .tuple #[.agg #[.int .i64 3, .string ⟨#[]⟩, .slice ka kn kc], .int .i64 (wrongD s : Int), .int .i64 0]) (by rw [hEE]; simp [results, Tryz.results130, go_sem, e0, e1, e2]) rfl ⟨3, _, _, 0, rfl, HF.out, wt_mean way ps hl, fun _ => ⟨ps, HPD.out, rfl⟩, HBEL.out⟩
  · have hnI : ¬ ((n : Int) = 0) := by omega
    obtain ⟨q0, q1, q2, qf⟩ := zcells hr2
    obtain ⟨hz7, hb7⟩ := set3 hr2 (.int .i64 0) (.string ⟨#[]⟩) (.slice none 0 0)
    obtain ⟨W7, hW7⟩ : ∃ W7, ((w2.setCell ⟨w.heap.size, 0, none⟩ (.int .i64 0)).setCell ⟨w.heap.size, 1, none⟩ (.string ⟨#[]⟩)).setCell ⟨w.heap.size, 2, none⟩ (.slice none 0 0) = W7 := ⟨_, rfl⟩
    rw [hW7] at hz7 hb7
    have hsz7 : w2.heap.size = W7.heap.size := by rw [← hW7, set_size, set_size, set_size]
    have hbel : Below w.heap.size w W7 := ⟨by rw [← hW7]; exact b02.os, by rw [← hW7]; exact b02.tape, by rw [← hW7]; exact b02.output, by rw [← hsz7]; exact b02.size, fun k hk => (hb7 k (by omega)).trans (b02.block k hk)⟩
    have HZ7 := hide hz7
    have HBEL := hide hbel
    have HE := hide he
    clear hread b2 b02 hr2 hz7 hb7 hsz7 hbel hrd he
    go_wp2
    try rw [hW7]
    obtain ⟨e0, e1, e2, _⟩ := zcells HZ7.out
    have hEE := HE.out
    exact bodyPost_ret (v := .tuple #[.agg #[.int .i64 0, .string ⟨#[]⟩, .slice none 0 0], .int .i64 (wrongD s : Int), .int .i64 pl]) (by rw [hEE]; simp [results, Tryz.results130, go_sem, e0, e1, e2]) rfl ⟨0, _, [], pl, rfl, .inl ⟨rfl, rfl⟩, by simp [wt, wtL], fun h0 => absurd (hEE.symm.trans h0) hn, HBEL.out⟩
theorem ExprIn.at_ {S : Nat → Prop} {B : Nat} {W : World} (hS : ∀ k, S k → k < B) {g o : Nat} {e : ExprD} (h : ExprIn S W g o e) : ExprAt B W g o e := by
  induction h with
  | nil g o op st hg h0 h1 h2 hs => exact .nil g o op st (hS g hg) h0 h1 h2 hs
  | row g o op st gk ck ks hg h0 h1 h2 hs hc _ ih => exact .row g o op st gk ck ks (hS g hg) h0 h1 h2 hs hc ih
theorem KidsIn.at_ {S : Nat → Prop} {B : Nat} {W : World} (hS : ∀ k, S k → k < B) {v : Value} {ks : List ExprD} (h : KidsIn S W v ks) : KidsAt B W v ks := by
  rcases h with h | ⟨gk, ck, e, hc, hk⟩
  · exact .inl h
  · exact .inr ⟨gk, ck, e, hc, fun i k hi => (hk i k hi).at_ hS⟩
structure GW (w : World) : Prop where
  mx : MaxW w
  tab : TabW w
  big : 13 < w.heap.size
theorem GW.below {w w' : World} (h : GW w) (hb : Below w.heap.size w w') : GW w' := ⟨h.mx.below (by have := h.big; omega) hb, h.tab.below (by have := h.big; omega) hb, Nat.lt_of_lt_of_le h.big hb.size⟩
set_option maxRecDepth 100000 in
set_option maxHeartbeats 4000000 in
theorem gmatch_any (s t : ByteArray) (way : Bool) (w : World) (hG : GW w) (ht : t.size ≤ 1000000000) :
    Calls Tryz.prog 154 #[.string s, .string t, .bool way, .bool false] w fun e w' => ∃ r, e = .returned (.tuple #[.bool r, .int .i64 (wrongD s : Int)]) ∧ (∀ ps, wrongD s = 0 → patD s.size s.data.toList = .ok ps → (r = true ↔ InE (meanD way ps) t.data.toList)) ∧ Below w.heap.size w w' := by
  have hrd := read_any s w hG.mx (by have := hG.big; omega)
  have HG := hide hG
  clear hG
  go_enter Tryz.func154, Tryz.ntmps154
  go_wp2_with fail
  refine hrd.mono ?_
  rintro e w2 ⟨hread, b2⟩
  rcases read_two hread with ⟨ps, v, he, hp, hl, rfl, hrow⟩ | ⟨n, pl, he, hn, rfl⟩
  · have hme := meaning_any ps way v _ w2 hrow hl
    obtain ⟨va, vn, vc, rfl⟩ : ∃ a n c, v = .slice a n c := by
      rcases hrow.form with ⟨e, _⟩ | ⟨g, c, e, _⟩ <;> exact ⟨_, _, _, e⟩
    have HE := hide he
    have HPD := hide hp
    have HB2 := hide b2
    clear hread hrow b2 he hp hrd
    go_wp2_with fail
    refine hme.mono ?_
    rintro e w3 ⟨kv, rfl, hkin, b3⟩
    have b03 : Below w.heap.size w w3 := HB2.out.trans (b3.mono HB2.out.size)
    have g3 := HG.out.below b03
    have hma := match_any 3 ⟨#[]⟩ kv (ps.map (exprD way)) t w3 (hkin.at_ (fun k hk => hk.2)) (by decide) (wt_mean way ps hl) ht g3.tab (by have := g3.big; omega)
    obtain ⟨ka, kn, kc, rfl⟩ : ∃ a n c, kv = .slice a n c := by
      obtain ⟨ka, kc, e⟩ := kin_shape hkin
      exact ⟨_, _, _, e⟩
    have HB03 := hide b03
    clear hkin b3 b03 hme g3
    go_wp2_with fail
    refine hma.mono ?_
    rintro e w4 ⟨r, rfl, hr, b4⟩
    have HR : Hid (∀ qs, wrongD s = 0 → patD s.size s.data.toList = .ok qs → (r = true ↔ InE (meanD way qs) t.data.toList)) := fun qs _ hq => by
      rw [HPD.out] at hq
      cases hq
      exact hr
    have HB4 : Hid (Below w.heap.size w w4) := HB03.out.trans (b4.mono HB03.out.size)
    have hEE := HE.out
    clear hr b4 hma HB03 HB2 HPD HE HG
    cases r with
    | true =>
      go_wp2
      exact bodyPost_ret (v := .tuple #[.bool true, .int .i64 (wrongD s : Int)]) (by rw [hEE]; simp [results, Tryz.results154, go_sem]) rfl ⟨true, rfl, fun qs h0 hq => by simpa using HR.out qs h0 hq, HB4.out⟩
    | false =>
      go_wp2
      exact bodyPost_ret (v := .tuple #[.bool false, .int .i64 (wrongD s : Int)]) (by rw [hEE]; simp [results, Tryz.results154, go_sem]) rfl ⟨false, rfl, HR.out, HB4.out⟩
  · have hnI : ¬ ((n : Int) = 0) := by omega
    have HE := hide he
    have HB2 := hide b2
    clear hread b2 hrd he HG
    go_wp2
    have hEE := HE.out
    exact bodyPost_ret (v := .tuple #[.bool false, .int .i64 (wrongD s : Int)]) (by rw [hEE]; simp [results, Tryz.results154, go_sem]) rfl ⟨false, rfl, fun _ h0 => absurd (hEE.symm.trans h0) hn, HB2.out⟩
end Go.Proofs.YtfemboojdablhaaGreatDoor
namespace Go.Proofs.YtfemboojdablhaaGreatDoor
open Go.RowKit Go.Maps
def takesP (p : ByteArray) : Bool := (partsS p).all (fun q => decide (wrongD q = 0))
set_option maxRecDepth 100000 in
set_option maxHeartbeats 1000000 in
theorem takes_any (s : ByteArray) (w : World) (hM : MaxW w) (h2 : 9 < w.heap.size) :
    Calls Tryz.prog 127 #[.string s] w fun e w' => e = .returned (.bool (decide (wrongD s = 0))) ∧ Below w.heap.size w w' := by
  have hp := parse_any s true w hM h2
  go_enter Tryz.func127, Tryz.ntmps127
  go_wp2_with fail
  refine hp.mono ?_
  rintro e w1 ⟨op, v, ks, pl, rfl, hkin, _, _, hb⟩
  obtain ⟨pa, pc, rfl⟩ := kin_shape hkin
  have HB := hide hb
  clear hb hkin hp
  go_wp2
  go_ret
  refine ⟨?_, HB.out.alloc HB.out.size _⟩
  show Ending.returned (.bool ((wrongD s : Int) == 0)) = _
  by_cases h : wrongD s = 0
  · rw [h]; rfl
  · have e1 : ((wrongD s : Int) == 0) = false := by rw [beq_eq_false_iff_ne]; omega
    rw [e1, decide_eq_false h]
theorem all_drop {α : Type} (f : α → Bool) (l : List α) (k : Nat) (h : k < l.length) : (l.drop k).all f = (f l[k] && (l.drop (k + 1)).all f) := by
  rw [List.drop_eq_getElem_cons h, List.all_cons]
theorem len_parts (s : ByteArray) : (partsS s).length ≤ s.size + 1 := partsS_length s
set_option maxRecDepth 100000 in
set_option maxHeartbeats 2000000 in
theorem takesParts_any (s : ByteArray) (w : World) (hs : s.size ≤ 1073741824) (hM : MaxW w) (h2 : 9 < w.heap.size) :
    Calls Tryz.prog 153 #[.string s] w fun e w' => e = .returned (.bool (takesP s)) ∧ Below w.heap.size w w' := by
  have hp := (callsIn_wide (n := 8)).1 (parts_in 8 (by omega) s hs w)
  have hln := len_parts s
  obtain ⟨ps, hps⟩ : ∃ ps, partsS s = ps := ⟨_, rfl⟩
  have HT := hide (show takesP s = ps.all (fun q => decide (wrongD q = 0)) by unfold takesP; rw [hps])
  rw [hps] at hp hln
  clear hps
  go_enter Tryz.func153, Tryz.ntmps153
  go_wp2_with fail
  refine hp.mono ?_
  rintro e w1 ⟨v, rfl, hown, hb⟩
  have hrow := StrRow.of_owns hown
  clear hp hown
  have hM1 := hM.below h2 hb
  have h21 : 9 < w1.heap.size := Nat.lt_of_lt_of_le h2 hb.size
  obtain ⟨g, cap, rfl⟩ : ∃ a cap, v = .slice a ps.length cap := by
    rcases hrow with ⟨e, e2⟩ | ⟨g, cap, e, _⟩
    · subst e2; exact ⟨_, _, e⟩
    · exact ⟨_, _, e⟩
  have HR := hide hrow
  have HB := hide hb
  clear hrow hb
  go_wp2
  go_loopw [4, 8] (fun _ iv wr => ∃ (i : Nat), iv = .int .i64 (i : Int) ∧ i ≤ ps.length ∧ ps.all (fun q => decide (wrongD q = 0)) = (ps.drop i).all (fun q => decide (wrongD q = 0)) ∧ Below w1.heap.size w1 wr) (fun _ iv _ => ps.length - (intOf iv).toNat)
  case atStart => exact ⟨0, rfl, Nat.zero_le _, by rw [List.drop_zero], Below.refl _ _⟩
  case round =>
    obtain ⟨i, rfl, hi, hall, hbr⟩ := hrel
    have HALL := hide hall
    have HBR := hide hbr
    by_cases hlt : i < ps.length
    · have hiI : (i : Int) < (ps.length : Int) := by omega
      rcases HR.out with ⟨_, e⟩ | ⟨g', cap', e, hg, hcap, hx⟩
      · rw [e] at hlt; simp at hlt
      obtain ⟨rfl, rfl⟩ : g = some ⟨g', 0, none⟩ ∧ cap = cap' := by cases e; exact ⟨rfl, rfl⟩
      have hcell : wr.cell? ⟨g', i, none⟩ = some (.string (ps[i]'hlt)) := (hbr.cell (p := ⟨g', i, none⟩) hg).trans (hx i _ (List.getElem?_eq_getElem hlt))
      have htk := takes_any (ps[i]'hlt) wr (hM1.below h21 hbr) (Nat.lt_of_lt_of_le h21 hbr.size)
      have HD := hide (all_drop (fun q => decide (wrongD q = 0)) ps i hlt)
      obtain ⟨r, hr⟩ : ∃ r, decide (wrongD (ps[i]'hlt) = 0) = r := ⟨_, rfl⟩
      rw [hr] at htk HD
      clear hr hall hbr e
      cases r with
      | false =>
        go_wp2_with (go_at_call 127; refine htk.mono ?_; rintro e w2 ⟨rfl, hb2⟩)
        go_ret
        refine ⟨?_, HB.out.trans ((HBR.out.trans (hb2.mono HBR.out.size)).mono HB.out.size)⟩
        have e1 := HT.out
        have e2 := HALL.out
        have e3 := HD.out
        rw [e1, e2, e3]
        rfl
      | true =>
        go_wp2_with (go_at_call 127; refine htk.mono ?_; rintro e w2 ⟨rfl, hb2⟩)
        go_roundw
        case rel => exact ⟨i + 1, by go_num, by omega, by rw [HALL.out, HD.out]; simp, HBR.out.trans (hb2.mono HBR.out.size)⟩
        case measure => simp [intOf]; omega
    · have hie : i = ps.length := by omega
      subst hie
      have hiI : ¬ ((ps.length : Int) < (ps.length : Int)) := by omega
      clear hall hbr
      go_wp2
      go_ret
      refine ⟨?_, HB.out.trans (HBR.out.mono HB.out.size)⟩
      rw [HT.out, HALL.out, List.drop_length]
      rfl
end Go.Proofs.YtfemboojdablhaaGreatDoor
