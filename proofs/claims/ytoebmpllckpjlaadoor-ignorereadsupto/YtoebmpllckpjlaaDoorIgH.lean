/- The document's trimmed. -/
import Derived.Test.YtoebmpllckpjlaaDoorIgG
namespace Go.Proofs.YtoebmpllckpjlaaDoor
open Go.RowKit Go.Maps

set_option maxRecDepth 100000 in
set_option maxHeartbeats 1000000 in
theorem trimmed_any (s : ByteArray) (w : World) (hs : s.size ≤ 16000000) :
    Calls Tryd.prog 21 #[.string s] w fun e w' => e = .returned (.string (bs (cutBlanksL s.data.toList))) ∧ Below w.heap.size w w' := by
  have hlv := live_any s w hs
  have hsl := size_list s
  have heq := trimmed_eq s.data.toList
  rw [hsl] at heq
  obtain ⟨l, hl⟩ : ∃ l, s.data.toList = l := ⟨_, rfl⟩
  rw [hl] at heq hlv hsl
  have hll := liveGo_length l false
  obtain ⟨lv, hlvv⟩ : ∃ lv, liveGo false l = lv := ⟨_, rfl⟩
  rw [hlvv] at heq hlv hll
  have HE := hide (⟨heq, hsl, hl⟩ : _ ∧ _ ∧ _)
  clear heq hsl hlvv
  have hst : bs (l.take s.size) = s := by
    rw [← hl, ← size_list s, List.take_length, bs_data]
  go_enter Tryd.func21, Tryd.ntmps21
  go_wp2_with fail
  refine hlv.mono ?_
  rintro e W1 ⟨rfl, hbb, hb⟩
  have HB := hide (⟨hbb, hb, hll⟩ : _ ∧ _ ∧ _)
  clear hbb hb hlv hll
  have HST := hide hst
  clear hst
  clear hl
  go_wp2
  go_loopw [0] (fun sv wr => ∃ k : Nat, k ≤ s.size ∧ sv = .string (bs (l.take k)) ∧ wr = W1 ∧ trimK l lv s.size = trimK l lv k) (fun sv _ => match sv with | .string t => t.size | _ => 0)
  case atStart => exact ⟨s.size, Nat.le_refl _, by rw [HST.out], rfl, rfl⟩
  case round =>
    obtain ⟨k, hk, rfl, rfl, htk⟩ := hrel
    have hlen : l.length = s.size := HE.out.2.1
    have hts : (bs (l.take k)).size = k := by show (⟨_⟩ : ByteArray).size = _; rw [bs_size, List.length_take]; omega
    obtain ⟨t, ht⟩ : ∃ t, bs (l.take k) = t := ⟨_, rfl⟩
    rw [ht] at hts ⊢
    cases k with
    | zero =>
      have h0 : ¬ ((0 : Int) < (t.size : Int)) := by omega
      have HT := hide (⟨ht, htk, hts⟩ : _ ∧ _ ∧ _)
      clear ht htk hts hlen
      go_wp2
      go_ret
      refine ⟨?_, HB.out.2.1⟩
      show Ending.returned (.string t) = _
      rw [HE.out.2.2, ← HE.out.1, HT.out.2.1, ← HT.out.1]
      rfl
    | succ j =>
      have hjt : j < t.size := by omega
      have hjl : j < l.length := by omega
      have hge : t[j] = l[j] := by
        have e : t.data.toList = l.take (j + 1) := by rw [← ht]; rfl
        have e2 : t[j] = t.data.toList[j]'(by rw [e, List.length_take]; omega) := rfl
        rw [e2]
        simp [e]
      have h0 : (0 : Int) < (t.size : Int) := by omega
      have h1 : (t.size : Int) - 1 = (j : Int) := by omega
      have hjI : (j : Int) < (s.size : Int) := by omega
      obtain ⟨b, hb⟩ : ∃ b, lv[j]? = some b := ⟨_, List.getElem?_eq_getElem (by rw [HB.out.2.2]; omega)⟩
      have hbc := (HB.out.1.cell hb).1
      have htk2 : trimK l lv (j + 1) = if l[j]? = some 32 ∧ lv[j]? = some true then trimK l lv j else j + 1 := by rw [trimK]
      have hex : t.extract 0 j = bs (l.take j) := by
        rw [extract_bs, ← ht, data_bs]
        simp [List.take_take]
      by_cases hx : l[j] = 32
      · have hxb : ((t[j].toNat : Int) == 32) = true := by rw [hge, hx]; rfl
        cases b with
        | true =>
          rw [if_pos ⟨by rw [List.getElem?_eq_getElem hjl, hx], hb⟩] at htk2
          have HT := hide (⟨ht, htk, hts, htk2, hex, hge⟩ : _ ∧ _ ∧ _ ∧ _ ∧ _ ∧ _)
          clear ht htk hts hlen htk2 hex hge hb hx
          go_wp2
          have hex := HT.out.2.2.2.2.1
          have hts := HT.out.2.2.1
          refine ⟨⟨j, by omega, by rw [hex], trivial, by rw [HT.out.2.1, HT.out.2.2.2.1]⟩, ?_⟩
          show (t.extract 0 j).size < t.size
          rw [hex, hts]
          show (⟨_⟩ : ByteArray).size < _
          rw [bs_size, List.length_take]
          omega
        | false =>
          rw [if_neg (by rintro ⟨_, h⟩; rw [hb] at h; cases h)] at htk2
          have HT := hide (⟨ht, htk, hts, htk2, hex, hge⟩ : _ ∧ _ ∧ _ ∧ _ ∧ _ ∧ _)
          clear ht htk hts hlen htk2 hex hge hb hx
          go_wp2
          go_ret
          refine ⟨?_, HB.out.2.1⟩
          show Ending.returned (.string t) = _
          rw [HE.out.2.2, ← HE.out.1, HT.out.2.1, HT.out.2.2.2.1, ← HT.out.1]
      · have hxb : ((t[j].toNat : Int) == 32) = false := by
          rw [hge, beq_eq_false_iff_ne]; intro e; exact hx (UInt8.toNat_inj.1 (by have : (32 : UInt8).toNat = 32 := rfl; omega))
        rw [if_neg (by rintro ⟨h, _⟩; rw [List.getElem?_eq_getElem hjl] at h; exact hx (Option.some.inj h))] at htk2
        have HT := hide (⟨ht, htk, hts, htk2, hex, hge⟩ : _ ∧ _ ∧ _ ∧ _ ∧ _ ∧ _)
        clear ht htk hts hlen htk2 hex hge hb hx
        go_wp2
        go_ret
        refine ⟨?_, HB.out.2.1⟩
        show Ending.returned (.string t) = _
        rw [HE.out.2.2, ← HE.out.1, HT.out.2.1, HT.out.2.2.2.1, ← HT.out.1]
end Go.Proofs.YtoebmpllckpjlaaDoor
