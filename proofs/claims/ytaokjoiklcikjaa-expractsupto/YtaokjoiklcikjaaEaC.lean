/- What does something: the program's Acts and the document's. -/
import Derived.Test.YtaokjoiklcikjaaEaB
namespace Go.Proofs.Ytaokjoiklcikjaa
open Go.RowKit Go.Maps

def actB (op : ByteArray) : Bool := op.toList == [45, 112, 114, 105, 110, 116] || op.toList == [45, 112, 114, 105, 110, 116, 48] || op.toList == [45, 113, 117, 105, 116]
mutual
def actsD : TestD → Bool
  | .mk op _ _ _ ks => actB op || actsL ks
def actsL : List TestD → Bool
  | [] => false
  | k :: r => actsD k || actsL r
end
theorem actsL_append (a b : List TestD) : actsL (a ++ b) = (actsL a || actsL b) := by
  induction a with
  | nil => simp [actsL]
  | cons x r ih => rw [List.cons_append, actsL, actsL, ih, Bool.or_assoc]
set_option maxRecDepth 100000 in
theorem isAction_any (op : ByteArray) (w : World) : Calls Try.prog 7 #[.string op] w fun e w' => e = .returned (.bool (actB op)) ∧ w' = w := by
  go_enter Try.func7, Try.ntmps7
  go_wp2
  all_goals go_ret
  all_goals exact ⟨by simp_all [actB], rfl⟩
def ActsR (e : TestD) : Prop := ∀ (B : Nat) (op tx : ByteArray) (nu sg : Int) (ks : List TestD) (v : Value) (w : World), e = .mk op tx nu sg ks → KRd B w v ks → B ≤ w.heap.size →
  Calls Try.prog 6 #[.agg #[.string op, .string tx, .int .i64 nu, .int .i64 sg, v]] w fun r w' => r = .returned (.bool (actsD e)) ∧ Below w.heap.size w w'
set_option maxRecDepth 100000 in
set_option maxHeartbeats 4000000 in
theorem racts_of {op tx : ByteArray} {nu sg : Int} {ks : List TestD} (IH : ∀ k ∈ ks, ActsR k) (hlen : ks.length ≤ 100000000) : ActsR (.mk op tx nu sg ks) := by
  rintro B _ _ _ _ _ v w ⟨⟩ hk hB
  obtain ⟨p, c, rfl⟩ := kids_shape hk
  have hb0 := tbox 24 w op tx nu sg (.slice p ks.length c)
  obtain ⟨b0, b1, b2, b3, b4, _⟩ := hb0.cells
  have hal : Below w.heap.size w (w.alloc (.cells #[.string op, .string tx, .int .i64 nu, .int .i64 sg, .slice p ks.length c] 24)) := (Below.refl _ _).alloc (Nat.le_refl _) _
  have HAL := hide hal
  have HB0 := hide hb0
  have HK := hide hk
  clear hal hb0 hk b1 b2 b3
  by_cases h1 : op.toList = [45, 112, 114, 105, 110, 116]
  · go_enter Try.func6, Try.ntmps6
    go_wp2
    go_ret
    exact ⟨by simp [actsD, actB, h1], HAL.out⟩
  by_cases h2 : op.toList = [45, 112, 114, 105, 110, 116, 48]
  · go_enter Try.func6, Try.ntmps6
    go_wp2
    go_ret
    exact ⟨by simp [actsD, actB, h2], HAL.out⟩
  by_cases h3 : op.toList = [45, 113, 117, 105, 116]
  · go_enter Try.func6, Try.ntmps6
    go_wp2
    go_ret
    exact ⟨by simp [actsD, actB, h3], HAL.out⟩
  have HA := hide (show actB op = false by simp [actB, h1, h2, h3])
  have n1 : (op.toList == [45, 112, 114, 105, 110, 116]) = false := beq_eq_false_iff_ne.2 h1
  have n2 : (op.toList == [45, 112, 114, 105, 110, 116, 48]) = false := beq_eq_false_iff_ne.2 h2
  have n3 : (op.toList == [45, 113, 117, 105, 116]) = false := beq_eq_false_iff_ne.2 h3
  go_enter Try.func6, Try.ntmps6
  go_wp2
  go_loopw [3, 4] (fun iv av wr => ∃ (i : Nat), iv = .int .i64 (i : Int) ∧ i ≤ ks.length ∧ actsL ks = actsL (ks.drop i) ∧ TBox 24 wr w.heap.size op tx nu sg (.slice p ks.length c) ∧ Below w.heap.size w wr) (fun iv _ _ => ks.length - (intOf iv).toNat)
  case atStart => exact ⟨0, rfl, Nat.zero_le _, by rw [List.drop_zero], HB0.out, HAL.out⟩
  case round =>
    obtain ⟨i, rfl, hi, hac, hbx, hb⟩ := hrel
    obtain ⟨d0, d1, d2, d3, d4, _⟩ := hbx.cells
    clear b0 b4
    have HBX := hide hbx
    have HB := hide hb
    have HAC := hide hac
    clear hbx hb hac
    by_cases hlt : i < ks.length
    · have hiI : (i : Int) < (ks.length : Int) := by omega
      rcases HK.out with ⟨_, e⟩ | ⟨gk, ck, hpe, hck, hkk⟩
      · rw [e] at hlt; simp at hlt
      obtain ⟨rfl, rfl⟩ : p = some gk ∧ c = ck := by cases hpe; exact ⟨rfl, rfl⟩
      obtain ⟨op', tx', nu', sg', q, kp, kc, hke, k0, k1, k2, k3, k4, hkq⟩ := kid_val ((hkk i (ks[i]'(by omega)) (List.getElem?_eq_getElem (by omega))).keep (HB.out.mono hB))
      have hih := IH (ks[i]'(by omega)) (List.getElem_mem _) B op' tx' nu' sg' q _ wr hke hkq (Nat.le_trans hB HB.out.size)
      have HDR := hide (show actsL (ks.drop i) = (actsD (ks[i]'(by omega)) || actsL (ks.drop (i + 1))) by rw [List.drop_eq_getElem_cons hlt, actsL])
      obtain ⟨r, hr⟩ : ∃ r, actsD (ks[i]'(by omega)) = r := ⟨_, rfl⟩
      rw [hr] at hih HDR
      clear hr hpe hkq hke
      cases r with
      | true =>
        go_wp2_with (go_at_call 6; refine hih.mono ?_; rintro e w2 ⟨rfl, hb2⟩)
        go_ret
        refine ⟨?_, HB.out.trans (hb2.mono HB.out.size)⟩
        have e1 := HAC.out
        have e2 := HDR.out
        simp [actsD, e1, e2]
      | false =>
        go_wp2_with (go_at_call 6; refine hih.mono ?_; rintro e w2 ⟨rfl, hb2⟩)
        go_roundw
        case rel => exact ⟨i + 1, by simp, by omega, by rw [HAC.out, HDR.out]; simp, (hb2.block _ (by have := (Array.getElem?_eq_some_iff.1 HBX.out).1; exact this)).trans HBX.out, HB.out.trans (hb2.mono HB.out.size)⟩
        case measure => simp [intOf]; omega
    · have hie : i = ks.length := by omega
      subst hie
      have hiI : ¬ ((ks.length : Int) < (ks.length : Int)) := by omega
      go_wp2
      go_ret
      refine ⟨?_, HB.out⟩
      have e1 := HAC.out
      have e2 := HA.out
      rw [List.drop_length] at e1
      simp [actsD, e1, e2, actsL]
theorem racts_all : ∀ (n : Nat) (e : TestD), nodes e ≤ n → n ≤ 100000000 → ActsR e := by
  intro n
  induction n with
  | zero => intro e h; cases e; rw [nodes] at h; omega
  | succ n ih =>
    rintro ⟨op, tx, nu, sg, ks⟩ h hn
    rw [nodes] at h
    have hl := len_nodes ks
    exact racts_of (fun k hk => ih k (by have := nodes_mem hk; omega) (by omega)) (by omega)
end Go.Proofs.Ytaokjoiklcikjaa
