/- The walk of TreeFinds. -/
import Derived.Test.YtehbjabneocflaaDoorCopy
namespace Go.Proofs.YtehbjabneocflaaDoor
open Go.RowKit
theorem Sent.below {C : Nat} {a6 a7 a9 a2 a4 a8 : Addr} {W W' : World} (h : Sent C a6 a7 a9 a2 a4 a8 W) (hb : Below C W W') (h6 : 6 < C) : Sent C a6 a7 a9 a2 a4 a8 W' :=
  have P : ∀ {a : Addr}, Pointee C W a → Pointee C W' a := fun ⟨h1, c, t, h2⟩ => ⟨h1, c, t, (hb.block _ h1).trans h2⟩
  { h with
    errs := h.errs.below hb h6
    c2 := (hb.cell (p := ⟨2, 0, none⟩) (by show 2 < C; omega)).trans h.c2
    c3 := (hb.cell (p := ⟨3, 0, none⟩) (by show 3 < C; omega)).trans h.c3
    c4 := (hb.cell (p := ⟨4, 0, none⟩) (by show 4 < C; omega)).trans h.c4
    p6 := P h.p6
    p7 := P h.p7
    p9 := P h.p9
    p2 := P h.p2
    p4 := P h.p4
    p8 := P h.p8 }
theorem Sent.up {C D : Nat} {a6 a7 a9 a2 a4 a8 : Addr} {W : World} (h : Sent C a6 a7 a9 a2 a4 a8 W) (hd : C ≤ D) : Sent D a6 a7 a9 a2 a4 a8 W :=
  have P : ∀ {a : Addr}, Pointee C W a → Pointee D W a := fun ⟨h1, h2⟩ => ⟨by omega, h2⟩
  { h with
    p6 := P h.p6
    p7 := P h.p7
    p9 := P h.p9
    p2 := P h.p2
    p4 := P h.p4
    p8 := P h.p8 }
theorem findR_err (L : List NodeD) (from_ : Int) (s : ByteArray) (fo : Bool) : (findR L from_ s fo).2.1 = 0 ∨ (findR L from_ s fo).2.1 = 6 ∨ (findR L from_ s fo).2.1 = 7 ∨ (findR L from_ s fo).2.1 = 9 := by
  unfold findR
  by_cases hout : from_ < 0 ∨ (L.length : Int) ≤ from_
  · rw [if_pos hout]; exact .inr (.inl rfl)
  · rw [if_neg hout]
    rcases find_err L 41 from_.toNat s fo 0 with h | ⟨_, h⟩
    · exact .inl h
    · exact .inr h
set_option maxRecDepth 100000 in
set_option maxHeartbeats 2000000 in
theorem law_finds (C : Nat) (a6 a7 a9 a2 a4 a8 : Addr) (h6 : 6 < C) (s : ByteArray) (from_ : Int) (p : ByteArray) (fo : Bool) (w : World) (hs : s.size ≤ 1073741824) (hp : p.size ≤ 1073741824) (hC : C ≤ w.heap.size) (hS : Sent C a6 a7 a9 a2 a4 a8 w) :
    Calls Tryd.prog 5 #[.string s, .int .i64 from_, .string p, .bool fo] w fun e w' => e = .returned (.bool true) ∧ Below w.heap.size w w' := by
  have HS := hide hS
  clear hS
  go_enter Tryd.func5, Tryd.ntmps5
  go_wp2_with fail
  refine (load_any s w hs).mono ?_
  rintro e w1 ⟨v, er, at_, lk, rfl, hown1, hwf, hb1⟩
  have HOWN1 := hide hown1
  have HWF := hide hwf
  have hlen := hwf.len
  have HK : Hid (∀ (i : Nat) (n : NodeD), (lk.map (·.1))[i]? = some n → n.kids.length ≤ 1000) := fun i n h => by have h1 := hwf.klen i n h; have h2 := hwf.len; omega
  have hrow1 := hown1.row
  have HROW1 := hide hrow1
  clear hown1 hwf hrow1
  have hz1 := hb1.size
  go_wp2_with fail
  refine (nodes_any w1.heap.size v _ w1 hlen (unhide HK) (unhide HROW1) (Nat.le_refl _)).mono ?_
  rintro e w2 ⟨v2, l2, rfl, hown2, hmap2, hb2⟩
  have hz2 := hb2.size
  have HROW2 := hide (show NodeRow w2.heap.size w2 v2 (lk.map (·.1)) from hmap2 ▸ hown2.row)
  have HB2 : Hid (Below w.heap.size w w2) := hb1.trans (hb2.mono hz1)
  clear hown2 hmap2
  go_wp2_with fail
  refine (tfind_any w2.heap.size a6 a7 a9 a2 a4 a8 (by omega) _ v2 (unhide HWF) from_ p fo w2 hp (unhide HROW2) (Nat.le_refl _) (((unhide HS).below ((unhide HB2).mono hC) h6).up (by omega))).mono ?_
  rintro e w3 ⟨rfl, hb3⟩
  have hz3 := hb3.size
  have HE := hide (findR_err (lk.map (·.1)) from_ p fo)
  go_wp2_with fail
  refine (reffind_any _ v w1.heap.size (unhide HWF) from_ p fo w3 hp ((unhide HROW1).below (hb2.trans (hb3.mono hz2))) (by omega)).mono ?_
  rintro e w4 ⟨rfl, hb4⟩
  have hz4 := hb4.size
  generalize findR (lk.map (·.1)) from_ p fo = R at HE ⊢
  go_wp2_with fail
  refine (sameNodes_any w2.heap.size w1.heap.size v2 v _ w4 hlen (unhide HK) ((unhide HROW2).below (hb3.trans (hb4.mono hz3))) ((unhide HROW1).below ((hb2.trans (hb3.mono hz2)).trans (hb4.mono (by omega)))) (by omega) (by omega)).mono ?_
  rintro e w5 ⟨rfl, hb5⟩
  have HN := hide (lawnum_any R.2.1 w5 (unhide HE))
  go_wp2_with fail
  refine (unhide HN).mono ?_
  rintro e w6 ⟨rfl, hw6⟩
  rw [hw6]; clear hw6
  go_wp2
  go_ret
  exact ⟨rfl, (((unhide HB2).trans (hb3.mono (by omega))).trans (hb4.mono (by omega))).trans (hb5.mono (by omega))⟩
end Go.Proofs.YtehbjabneocflaaDoor
