/- The document's live and trimmed. -/
import Derived.Test.YtoebmpllckpjlaaDoorIgF
import Derived.Laws.MakeOwn
namespace Go.Proofs.YtoebmpllckpjlaaDoor
open Go.RowKit Go.Maps

theorem Tryd.info4b : (Tryd.prog.info? 4).map (fun i => (i.zero, i.size, i.bytes)) = some (some (.bool false), 1, 1) := by kernel_rfl
theorem Tryd.underlying54b : Tryd.prog.underlying 54 = some (.slice 4) := by kernel_rfl
def bools (l : List Bool) : List Value := l.map Value.bool
theorem made_false (n : Nat) : (madeCells (Value.bool false).cells (n * 1)).toList = bools (List.replicate n false) := by
  apply List.ext_getElem?
  intro i
  unfold bools
  rw [List.map_replicate, List.getElem?_replicate]
  show (madeCells #[Value.bool false] (n * 1)).toList[i]? = _
  unfold madeCells
  rw [Nat.mul_one, Array.toList_map, List.getElem?_map, Array.toList_range]
  by_cases hi : i < n
  · rw [List.getElem?_range hi, if_pos hi]
    simp [Nat.mod_one]
  · rw [List.getElem?_eq_none (by simp; omega), if_neg hi]
    rfl
def BoolB (W : World) (b : Nat) (l : List Bool) : Prop := W.heap[b]? = some (.cells (bools l).toArray 4 (0, 0))
theorem BoolB.set {W : World} {b : Nat} {l : List Bool} (h : BoolB W b l) (i : Nat) (c : Bool) : BoolB (W.setCell ⟨b, i, none⟩ (.bool c)) b (l.set i c) := by
  obtain ⟨hl, hk⟩ := Array.getElem?_eq_some_iff.1 h
  unfold BoolB
  show (W.heap.modify b _)[b]? = _
  rw [Array.getElem?_eq_getElem (by rw [Array.size_modify]; exact hl), Array.getElem_modify_self, hk]
  have e : (bools l).toArray.set! i (.bool c) = (bools (l.set i c)).toArray := by
    unfold bools
    simp [List.map_set]
  show some (Obj.cells ((bools l).toArray.set! i (.bool c)) 4 (0, 0)) = _
  rw [e]
theorem BoolB.cell {W : World} {b : Nat} {l : List Bool} (h : BoolB W b l) {i : Nat} {c : Bool} (hi : l[i]? = some c) : W.cell? ⟨b, i, none⟩ = some (.bool c) ∧ W.frozen? ⟨b, i, none⟩ = false := by
  unfold BoolB at h
  refine ⟨?_, by simp [World.frozen?, h]⟩
  rw [cell_of_row _ _ _ _ _ _ h]
  simp [bools, hi]
/-- Where the loop stands. -/
def LiveSt (l : List UInt8) (i : Nat) (cs : List Bool) : Prop := (i ≤ l.length ∧ ∃ done, done.length = i ∧ liveGo false l = done ++ liveGo false (l.drop i) ∧ cs = done ++ List.replicate (l.length - i) false) ∨ (i = l.length + 1 ∧ cs = liveGo false l)
theorem liveSt_len {l : List UInt8} {i : Nat} {cs : List Bool} (h : LiveSt l i cs) : cs.length = l.length := by
  rcases h with ⟨hi, done, hd, _, rfl⟩ | ⟨_, rfl⟩
  · rw [List.length_append, List.length_replicate]; omega
  · exact liveGo_length l false
theorem liveSt_step {l : List UInt8} {i : Nat} {cs : List Bool} (h : LiveSt l i cs) (hi : i < l.length) : LiveSt l (if l[i] = 92 then i + 2 else i + 1) (cs.set i true) := by
  rcases h with ⟨_, done, hd, hlv, rfl⟩ | ⟨e, _⟩
  · obtain ⟨m, hm⟩ : ∃ m, l.length - i = m + 1 := ⟨l.length - i - 1, by omega⟩
    have hset : (done ++ List.replicate (l.length - i) false).set i true = done ++ [true] ++ List.replicate m false := by
      rw [List.set_append_right _ _ (by omega), hd, Nat.sub_self, hm, List.replicate_succ, List.set_cons_zero, List.append_assoc]
      rfl
    rw [hset]
    rw [List.drop_eq_getElem_cons hi, liveGo] at hlv
    by_cases hx : l[i] = 92
    · rw [if_pos hx]
      have hb : (l[i] == (92 : UInt8)) = true := by rw [hx]; rfl
      rw [hb] at hlv
      by_cases h1 : i + 1 < l.length
      · rw [List.drop_eq_getElem_cons h1, liveGo] at hlv
        refine .inl ⟨by omega, done ++ [true, false], by simp; omega, by rw [hlv]; simp, ?_⟩
        obtain ⟨q, hq⟩ : ∃ q, m = q + 1 := ⟨m - 1, by omega⟩
        rw [hq, List.replicate_succ, show l.length - (i + 2) = q by omega]
        simp
      · rw [List.drop_of_length_le (by omega)] at hlv
        have hm0 : m = 0 := by omega
        subst hm0
        refine .inr ⟨by omega, ?_⟩
        rw [hlv]
        simp [liveGo]
    · rw [if_neg hx]
      have hb : (l[i] == (92 : UInt8)) = false := beq_eq_false_iff_ne.2 hx
      rw [hb] at hlv
      refine .inl ⟨by omega, done ++ [true], by simp; omega, by rw [hlv]; simp, ?_⟩
      rw [show l.length - (i + 1) = m by omega]
  · omega
theorem liveSt_end {l : List UInt8} {i : Nat} {cs : List Bool} (h : LiveSt l i cs) (hi : ¬ i < l.length) : cs = liveGo false l := by
  rcases h with ⟨h1, done, hd, hlv, rfl⟩ | ⟨_, rfl⟩
  · rw [hlv, List.drop_of_length_le (by omega), show l.length - i = 0 by omega]
    simp [liveGo]
  · rfl
theorem liveSt_le {l : List UInt8} {i : Nat} {cs : List Bool} (h : LiveSt l i cs) : i ≤ l.length + 1 := by
  rcases h with ⟨h1, _⟩ | ⟨h1, _⟩ <;> omega
set_option maxRecDepth 100000 in
set_option maxHeartbeats 1000000 in
theorem live_any (s : ByteArray) (w : World) (hs : s.size ≤ 16000000) :
    Calls Tryd.prog 34 #[.string s] w fun e w' => e = .returned (.slice (some ⟨w.heap.size, 0, none⟩) s.size s.size) ∧ BoolB w' w.heap.size (liveGo false s.data.toList) ∧ Below w.heap.size w w' := by
  obtain ⟨i0, hi0, hz0, hz1, hz2⟩ := info_parts Tryd.info4b
  have hsl := size_list s
  obtain ⟨W, hmk, hown, hgr⟩ := run_makeSlice_full (P := Tryd.prog) (w := w) w.heap.size 54 4 i0 (.bool false) 1 Tryd.underlying54b hi0 hz0 hz1 .i64 .i64 s.size (by omega) (by rw [hz2]; omega) (by unfold maxLen; omega) (Nat.le_refl _)
  have hout : BoolB W w.heap.size (List.replicate s.size false) := by
    rcases hown.2 with ⟨e, _⟩ | ⟨g, cap, cur, e, _, hg, _, _, hsz, hct⟩
    · cases e
    · cases e
      have e2 : cur.toList = bools (List.replicate s.size false) := by
        rw [List.take_of_length_le (by rw [Array.length_toList, hsz]; exact Nat.le_refl _), made_false] at hct
        exact hct
      unfold BoolB
      rw [hg, ← e2]
  have hbw : Below w.heap.size w W := ⟨hgr.os, hgr.tape, hgr.output, hgr.size, fun k hk => hgr.block k hk (fun e => by cases e)⟩
  have h0 : LiveSt s.data.toList 0 (List.replicate s.size false) := .inl ⟨Nat.zero_le _, [], rfl, by simp, by simp⟩
  have HO := hide (⟨hout, hbw, h0, hsl⟩ : _ ∧ _ ∧ _ ∧ _)
  clear hown hgr hout hbw h0 hsl
  go_enter Tryd.func34, Tryd.ntmps34
  go_wp2
  go_loopw [4] (fun iv wr => ∃ (i : Nat) (cs : List Bool), iv = .int .i64 (i : Int) ∧ LiveSt s.data.toList i cs ∧ BoolB wr w.heap.size cs ∧ Below w.heap.size w wr) (fun iv _ => s.size + 1 - (intOf iv).toNat)
  case atStart => exact ⟨0, _, rfl, HO.out.2.2.1, HO.out.1, HO.out.2.1⟩
  case round =>
    obtain ⟨i, cs, rfl, hst, hbb, hb⟩ := hrel
    have hsl := HO.out.2.2.2
    have hile := liveSt_le hst
    rw [hsl] at hile
    have hcl := liveSt_len hst
    rw [hsl] at hcl
    by_cases hlt : i < s.size
    · have hiI : (i : Int) < (s.size : Int) := by omega
      obtain ⟨b, hbc⟩ : ∃ b, cs[i]? = some b := ⟨_, List.getElem?_eq_getElem (by omega)⟩
      obtain ⟨q1, q2⟩ := hbb.cell hbc
      have hstep := liveSt_step hst (by rw [hsl]; exact hlt)
      have hset := hbb.set i true
      have hbs : Below w.heap.size w (wr.setCell ⟨w.heap.size, i, none⟩ (.bool true)) := hb.setCell (p := ⟨w.heap.size, i, none⟩) (Nat.le_refl _) _
      have hge : s.data.toList[i]'(by rw [hsl]; exact hlt) = s[i] := rfl
      rw [hge] at hstep
      by_cases hx : s[i] = 92
      · rw [if_pos hx] at hstep
        have hxb : ((s[i].toNat : Int) == 92) = true := by rw [hx]; rfl
        have HR := hide (⟨hstep, hset, hbs⟩ : _ ∧ _ ∧ _)
        clear hst hbb hb hcl hbc hstep hset hbs hge hx hsl hmk
        go_wp2
        go_roundw
        case rel => exact ⟨i + 2, _, by go_num, HR.out.1, HR.out.2.1, HR.out.2.2⟩
        case measure => simp [intOf]; omega
      · rw [if_neg hx] at hstep
        have hxb : ((s[i].toNat : Int) == 92) = false := by
          rw [beq_eq_false_iff_ne]; intro e; exact hx (UInt8.toNat_inj.1 (by have : (92 : UInt8).toNat = 92 := rfl; omega))
        have HR := hide (⟨hstep, hset, hbs⟩ : _ ∧ _ ∧ _)
        clear hst hbb hb hcl hbc hstep hset hbs hge hx hsl hmk
        go_wp2
        go_roundw
        case rel => exact ⟨i + 1, _, by go_num, HR.out.1, HR.out.2.1, HR.out.2.2⟩
        case measure => simp [intOf]; omega
    · have hend := liveSt_end hst (by rw [hsl]; exact hlt)
      subst hend
      have hiI : ¬ ((i : Int) < (s.size : Int)) := by omega
      have HR := hide (⟨hbb, hb⟩ : _ ∧ _)
      clear hst hbb hb hcl hsl hmk
      go_wp2
      go_ret
      exact ⟨rfl, HR.out.1, HR.out.2⟩
end Go.Proofs.YtoebmpllckpjlaaDoor
