/- The document's build: rows. -/
import Derived.Test.YtiekhoehkgmbjaaDoorARefG
namespace Go.Proofs.YtiekhoehkgmbjaaDoor
open Go.RowKit Go.Maps

theorem bldRow_nil (A : List RSt) (next : Nat) : bldRow [] A next = (A, next) := by rw [bldRow]
theorem kid_val {B : Nat} {W : World} {a : Addr} {k : ExprD} (h : ERd B W a k) : ∃ (op : Int) (s : ByteArray) (v : Value) (q : List ExprD) (p : Option Addr) (c : Nat), k = .mk op s.data.toList q ∧ v = .slice p q.length c ∧ W.cell? a = some (.int .i64 op) ∧ W.cell? ⟨a.block, a.off + 1, none⟩ = some (.string s) ∧ W.cell? ⟨a.block, a.off + 2, none⟩ = some v ∧ ExVal B W (.agg #[.int .i64 op, .string s, v]) op s.data.toList q := by
  obtain ⟨op, tx, q⟩ := k
  obtain ⟨_, h0, ⟨s, rfl, hs, h1⟩, v, h2, hk⟩ := h.inv
  obtain ⟨p, c, rfl⟩ := kids_shape hk
  exact ⟨op, s, _, q, p, c, rfl, rfl, h0, h1, h2, s, _, rfl, rfl, hs, hk⟩
theorem evs_trans {evs evs1 evs2 : List Value} {n m : Nat} (h : ∀ v ∈ evs1, v ∈ evs ∨ ∀ g, v.ownBlock = some g → n ≤ g) (h2 : ∀ v ∈ evs2, v ∈ evs1 ∨ ∀ g, v.ownBlock = some g → m ≤ g) (hn : n ≤ m) : ∀ v ∈ evs2, v ∈ evs ∨ ∀ g, v.ownBlock = some g → n ≤ g := fun v hv => by
  rcases h2 v hv with e | e
  · exact h v e
  · exact .inr (fun g hg => Nat.le_trans hn (e g hg))
set_option maxRecDepth 100000 in
set_option maxHeartbeats 4000000 in
theorem build3 {op : Int} {tx : List UInt8} {ks : List ExprD} (h1 : op = 3) (IH : ∀ k ∈ ks, BuildOK k) : BuildOK (.mk op tx ks) := by
  rintro B a sv tv ev A ss evs next w x _ _ _ ⟨⟩ ⟨s, v, rfl, rfl, hs, hk⟩ hR hn hW hsz hB
  subst h1
  have hD : bldD (.mk 3 s.data.toList ks) A next = bldRow ks A next := by rw [bldD, if_neg (by decide), if_neg (by decide), if_pos rfl]
  rw [hD]
  rw [nodes] at hsz
  have HFIN : Hid (∀ (sv' tv' ev' : Value) (ss' : List ByteArray) (evs' : List Value) (w' : World), RW B w' a sv' tv' ev' (bldRow ks A next).1 ss' evs' → FrR B tv tv' w w' → (∀ v ∈ evs', v ∈ evs ∨ ∀ g, v.ownBlock = some g → w.heap.size ≤ g) → BuildP B a tv evs (bldRow ks A next).1 (bldRow ks A next).2 w (.returned (.int .i64 ((bldRow ks A next).2 : Int))) w') := fun _ _ _ _ _ _ a b c => build_done a b c
  have hb0 := ebox w 3 s v
  have HR1 := hide (hR.alloc (.cells #[.int .i64 3, .string s, v] 24))
  have HFR := hide ((FrR.refl B tv w).alloc hB (.cells #[.int .i64 3, .string s, v] 24))
  have HKW := hide hk
  obtain ⟨p, c, hv⟩ := kids_shape hk
  have hlen : ks.length ≤ 100000000 := by
    have : ∀ l : List ExprD, l.length ≤ nodesL l := by
      intro l
      induction l with
      | nil => simp
      | cons y r ih => rw [nodesL, List.length_cons]; have : 1 ≤ nodes y := (by cases y; rw [nodes]; omega); omega
    have := this ks
    omega
  have hsub : (ks.length : Int) - 1 = ((ks.length : Nat) : Int) - 1 := rfl
  subst hv
  obtain ⟨b0, b1, b2⟩ := EBox.cells hb0
  obtain ⟨W1, hW1⟩ : ∃ W1, w.alloc (.cells #[.int .i64 3, .string s, .slice p ks.length c] 24) = W1 := ⟨_, rfl⟩
  rw [hW1] at hb0 HR1 HFR b0 b1 b2
  have HB := hide hb0
  clear hR hk hD hb0
  go_enter Tryd.func40, Tryd.ntmps40
  go_wp2
  go_loopw [2, 7] (fun nv iv wr => ∃ (i : Nat) (sv' tv' ev' : Value) (ss' : List ByteArray) (evs' : List Value), iv = .int .i64 ((i : Int) - 1) ∧ nv = .int .i64 ((bldRow (ks.drop i) A next).2 : Int) ∧ i ≤ ks.length ∧ RW B wr a sv' tv' ev' (bldRow (ks.drop i) A next).1 ss' evs' ∧ FrR B tv tv' w wr ∧ EBox wr w.heap.size 3 s (.slice p ks.length c) ∧ (∀ v ∈ evs', v ∈ evs ∨ ∀ g, v.ownBlock = some g → w.heap.size ≤ g)) (fun _ iv _ => (intOf iv + 1).toNat)
  case atStart => exact ⟨ks.length, sv, tv, ev, ss, evs, by simp, by rw [List.drop_length, bldRow_nil], Nat.le_refl _, by rw [List.drop_length, bldRow_nil]; exact HR1.out, HFR.out, HB.out, fun v hv => .inl hv⟩
  case round =>
    obtain ⟨i, sv', tv', ev', ss', evs', rfl, rfl, hi, hR', hF', hE', hev'⟩ := hrel
    have hBw : B ≤ wr.heap.size := Nat.le_trans hB hF'.bel.size
    obtain ⟨c0, c1, c2⟩ := hE'.cells
    cases i with
    | zero =>
      rw [List.drop_zero] at hR'
      rw [List.drop_zero]
      have HG := hide (HFIN.out _ _ _ _ _ _ hR' hF' hev')
      clear hR' hF' hev' hE'
      go_wp2
      go_ret
      exact HG.out
    | succ j =>
      have hbs := bldRow_drop (ks := ks) (i := j) (by omega) A next
      have hjI : ¬ (((j + 1 : Nat) : Int) - 1 < 0) := by omega
      have hjE : (((j + 1 : Nat) : Int) - 1) = (j : Int) := by omega
      rw [hjE]
      rcases HKW.out with ⟨_, e⟩ | ⟨gk, ck, hpe, hck, hkk⟩
      · rw [e] at hi; simp at hi
      obtain ⟨rfl, rfl⟩ : p = some gk ∧ c = ck := by cases hpe; exact ⟨rfl, rfl⟩
      obtain ⟨op, t, kv, q, kp, kc, hke, hkv, k0, k1, k2, hval⟩ := kid_val ((hkk j (ks[j]'(by omega)) (List.getElem?_eq_getElem (by omega))).keep hF'.bel)
      subst hkv
      obtain ⟨hW2, hn2, hA1, hA2, _⟩ := bldRow_sz (ks.drop (j + 1)) A next hn hW
      have hnod := nodesL_at (ks := ks) (i := j) (by omega)
      have hih := IH (ks[j]'(by omega)) (List.getElem_mem _) B a sv' tv' ev' _ ss' evs' _ wr _ op _ q hke hval hR' hn2 hW2 (by omega) hBw
      rw [← hbs] at hih
      have HF2 := hide hF'
      have HE2 := hide hE'
      have HEV := hide hev'
      clear hR' hF' hE' hev' hval hW2 hn2 hA1 hA2 hnod hbs hke hpe
      go_wp2_with (go_at_call 40; refine hih.mono ?_; rintro e w2 ⟨rfl, sv2, tv2, ev2, ss2, evs2, hR2, hF2, hev2⟩)
      go_roundw
      case rel => exact ⟨j, sv2, tv2, ev2, ss2, evs2, by simp, rfl, by omega, hR2, HF2.out.trans hF2, HE2.out.fr hF2, evs_trans HEV.out hev2 HF2.out.bel.size⟩
      case measure => simp [intOf]
end Go.Proofs.YtiekhoehkgmbjaaDoor
