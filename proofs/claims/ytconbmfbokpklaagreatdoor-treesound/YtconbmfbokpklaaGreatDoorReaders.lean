/- The five readers of a line's fields. -/
import Derived.Test.YtconbmfbokpklaaGreatDoorText
import Derived.Deep.RegionWith
namespace Go.Proofs.YtconbmfbokpklaaGreatDoor
open Go.RowKit

/-- An error that is on a line's form alone. -/
def TextErr (A : Ads) (p : Value × List Addr) : Prop := nn p = true ∧ p.2 ≠ [] ∧ ∀ a ∈ p.2, a = A.t
def RdCase (A : Ads) (p : Value × List Addr) (k sz tm : Int) (tx : ByteArray) : Option FldD → Prop
  | some f => p = (.nilIface, []) ∧ f = (k, sz, tm, tx)
  | none => TextErr A p
def RdPost (A : Ads) (b : Nat) (r : Option FldD) (w : World) (e : Ending) (w' : World) : Prop :=
  ∃ (p : Value × List Addr) (k sz tm : Int) (tx : ByteArray), e = .returned p.1 ∧ OErr w' p ∧ BoxP w' b k (bs []) 0 sz tm tx (.slice none 0 0) ∧ RdCase A p k sz tm tx r ∧ w.grownBy w' (some b)
theorem errT_text (A : Ads) : TextErr A (errT A false) := ⟨rfl, by simp [errT], fun a ha => by simpa [errT] using ha⟩
theorem rd_no {C : Nat} {A : Ads} {b : Nat} {r : Option FldD} {w w' : World} {k sz tm : Int} {tx : ByteArray} (hr : r = none) (hs : Sent C A w') (hb : BoxP w' b k (bs []) 0 sz tm tx (.slice none 0 0)) (hg : w.grownBy w' (some b)) : RdPost A b r w (.returned (.iface 207 (.pointer (some A.t)))) w' := by
  subst hr
  exact ⟨errT A false, k, sz, tm, tx, rfl, errT_O hs false, hb, errT_text A, hg⟩
theorem rd_yes {A : Ads} {b : Nat} {r : Option FldD} {w w' : World} {k sz tm : Int} {tx : ByteArray} (hr : r = some (k, sz, tm, tx)) (hb : BoxP w' b k (bs []) 0 sz tm tx (.slice none 0 0)) (hg : w.grownBy w' (some b)) : RdPost A b r w (.returned .nilIface) w' := by
  subst hr
  exact ⟨(.nilIface, []), k, sz, tm, tx, rfl, .inl rfl, hb, ⟨rfl, rfl⟩, hg⟩
theorem Sent.grown {C b : Nat} {A : Ads} {W W' : World} (h : Sent C A W) (hg : W.grownBy W' (some b)) (hb : C ≤ b) (hC : C ≤ W.heap.size) : Sent C A W' :=
  h.below ⟨hg.os, hg.tape, hg.output, hg.size, fun k hk => hg.block k (by omega) (fun e => by have := Option.some.inj e; omega)⟩
def BoxZ (W : World) (b : Nat) : Prop := BoxP W b 0 (bs []) 0 0 0 (bs []) (.slice none 0 0)
/-- The cells that hold these texts. -/
def HasStrs (W : World) (g off : Nat) (ys : List ByteArray) : Prop := ∀ (j : Nat) (x : ByteArray), ys[j]? = some x → W.cell? ⟨g, off + j, none⟩ = some (.string x)

set_option maxHeartbeats 1000000 in
theorem readDir_any {C : Nat} {A : Ads} (b : Nat) (a : Option Addr) (cap : Nat) (ys : List ByteArray) (w : World) (hbox : BoxZ w b) (hsent : Sent C A w) (hC : C ≤ w.heap.size) (hCb : C ≤ b) (hl : ys.length ≤ 1000000) :
    Calls Tryz.prog 62 #[.pointer (some ⟨b, 0, none⟩), .slice a ys.length cap] w (RdPost A b (fieldsD 100 ys) w) := by
  obtain ⟨d0, _, _, _, _, _, _, df⟩ := hbox.cells
  have f0 := df 0
  have HS2 := hide (hsent.grown (set_grown w b 0 (.int .u8 100)) hCb hC)
  have HBX := hide (hbox.set0 100)
  have HNU := hide (readNums0 (A := A) a ys.length cap (w.setCell ⟨b, 0, none⟩ (.int .u8 100)) hl (unhide HS2).c0)
  clear df hbox hsent
  by_cases hn : ys = []
  · have HR := hide (fD_d (k := 100) (.inl rfl) hn)
    have hz : ys.length = 0 := by rw [hn]; rfl
    rw [show (ys.length == 0) = true from by rw [hz]; rfl] at HNU
    clear hn hz
    go_enter Tryz.func62, Tryz.ntmps62
    go_wp2_with (go_at_call 87; refine (unhide HNU).mono ?_; rintro e w' ⟨rfl, rfl⟩)
    go_ret
    exact rd_yes HR.out (unhide HBX) (set_grown _ _ _ _)
  · have HR := hide (fD_d_no (k := 100) (.inl rfl) hn)
    rw [show (ys.length == 0) = false from by rw [beq_eq_false_iff_ne]; intro e; exact hn (List.eq_nil_of_length_eq_zero e)] at HNU
    clear hn
    go_enter Tryz.func62, Tryz.ntmps62
    go_wp2_with (go_at_call 87; refine (unhide HNU).mono ?_; rintro e w' ⟨rfl, rfl⟩)
    go_ret
    exact rd_no HR.out (unhide HS2) (unhide HBX) (set_grown _ _ _ _)
set_option maxHeartbeats 1000000 in
theorem readShut_any {C : Nat} {A : Ads} (b : Nat) (a : Option Addr) (cap : Nat) (ys : List ByteArray) (w : World) (hbox : BoxZ w b) (hsent : Sent C A w) (hC : C ≤ w.heap.size) (hCb : C ≤ b) (hl : ys.length ≤ 1000000) :
    Calls Tryz.prog 63 #[.pointer (some ⟨b, 0, none⟩), .slice a ys.length cap] w (RdPost A b (fieldsD 120 ys) w) := by
  obtain ⟨d0, _, _, _, _, _, _, df⟩ := hbox.cells
  have f0 := df 0
  have HS2 := hide (hsent.grown (set_grown w b 0 (.int .u8 120)) hCb hC)
  have HBX := hide (hbox.set0 120)
  have HNU := hide (readNums0 (A := A) a ys.length cap (w.setCell ⟨b, 0, none⟩ (.int .u8 120)) hl (unhide HS2).c0)
  clear df hbox hsent
  by_cases hn : ys = []
  · have HR := hide (fD_d (k := 120) (.inr rfl) hn)
    have hz : ys.length = 0 := by rw [hn]; rfl
    rw [show (ys.length == 0) = true from by rw [hz]; rfl] at HNU
    clear hn hz
    go_enter Tryz.func63, Tryz.ntmps63
    go_wp2_with (go_at_call 87; refine (unhide HNU).mono ?_; rintro e w' ⟨rfl, rfl⟩)
    go_ret
    exact rd_yes HR.out (unhide HBX) (set_grown _ _ _ _)
  · have HR := hide (fD_d_no (k := 120) (.inr rfl) hn)
    rw [show (ys.length == 0) = false from by rw [beq_eq_false_iff_ne]; intro e; exact hn (List.eq_nil_of_length_eq_zero e)] at HNU
    clear hn
    go_enter Tryz.func63, Tryz.ntmps63
    go_wp2_with (go_at_call 87; refine (unhide HNU).mono ?_; rintro e w' ⟨rfl, rfl⟩)
    go_ret
    exact rd_no HR.out (unhide HS2) (unhide HBX) (set_grown _ _ _ _)
theorem two_fD (ys : List ByteArray) : fieldsD 102 ys = (two? ys).map (fun z => (102, z.1, z.2, bs [])) := by
  by_cases h : ys.length = 2
  · match ys, h with
    | [a, b], _ =>
      rw [fD_f, two_pair]
      cases (gB a && gB b) <;> rfl
  · rw [fD_f_no h, two_no h]; rfl
set_option maxHeartbeats 1000000 in
theorem readFile_any {C : Nat} {A : Ads} (b g off cap : Nat) (ys : List ByteArray) (w : World) (hbox : BoxZ w b) (hsent : Sent C A w) (hC : C ≤ w.heap.size) (hCb : C ≤ b) (hl : ys.length ≤ 1000000) (hgb : g ≠ b) (hx : HasStrs w g off ys) (hy : ∀ y ∈ ys, y.size ≤ 1000000) :
    Calls Tryz.prog 64 #[.pointer (some ⟨b, 0, none⟩), .slice (some ⟨g, off, none⟩) ys.length cap] w (RdPost A b (fieldsD 102 ys) w) := by
  obtain ⟨d0, _, _, _, _, _, _, df⟩ := hbox.cells
  have f0 := df 0
  have hblt := hbox.lt
  obtain ⟨W0, hW0⟩ : ∃ W0, ((w.setCell ⟨b, 0, none⟩ (.int .u8 102)).alloc (.cells #[.pointer (some ⟨b, 3, none⟩), .pointer (some ⟨b, 4, none⟩)] 136)).drew = W0 := ⟨_, rfl⟩
  have hg0 : w.grownBy W0 (some b) := by rw [← hW0]; exact ((set_grown w b 0 (.int .u8 102)).trans (World.grownBy_alloc _ _ _)).trans (grown_of_belowP ((Below.refl _ _).drew))
  have hbx0 : BoxP W0 b 102 (bs []) 0 0 0 (bs []) (.slice none 0 0) := by rw [← hW0]; exact (hbox.set0 102).below ((Below.refl _ _).alloc (Nat.le_refl _) _).drew (by simp; exact hblt)
  have hs0 := hsent.grown hg0 hCb hC
  have hp0 : W0.cell? ⟨w.heap.size, 0, none⟩ = some (.pointer (some ⟨b, 3, none⟩)) := by rw [← hW0, cell_drew_own, World.cell?_alloc_at _ _ _ _ (by simp)]; rfl
  have hp1 : W0.cell? ⟨w.heap.size, 1, none⟩ = some (.pointer (some ⟨b, 4, none⟩)) := by rw [← hW0, cell_drew_own, World.cell?_alloc_at _ _ _ _ (by simp)]; rfl
  have hx0 : ∀ (j : Nat) (x : ByteArray), ys[j]? = some x → W0.cell? ⟨g, off + j, none⟩ = some (.string x) := fun j x hj => hg0.cell (a := ⟨g, off + j, none⟩) (hx j x hj) (fun e => hgb (Option.some.inj e))
  have HN := hide (readNums2 (A := A) b g off cap w.heap.size 2 ys 102 (bs []) 0 0 0 (bs []) (.slice none 0 0) W0 hbx0 hy hl hgb (by omega) hx0 hp0 hp1 hs0.c0)
  have HG0 := hide hg0
  have HS0 := hide hs0
  have hC0 : C ≤ W0.heap.size := Nat.le_trans hC hg0.size
  have HFD := hide (two_fD ys)
  clear df hbox hsent hbx0 hp0 hp1 hx0 hx hy hg0 hs0
  go_enter Tryz.func64, Tryz.ntmps64
  go_wp2_with fail
  go_region_with (go_at_call 87; refine (unhide HN).mono ?_; rintro e w2 ⟨sz', tm', rfl, hbx, hval, hg⟩)
  have HB := hide hbx
  have HV := hide hval
  have HG2 := hide hg
  have hs2 := (unhide HS0).grown hg hCb hC0
  have HS2 := hide hs2
  clear hbx hval hg hs2
  cases ht : two? ys with
  | none =>
    rw [ht] at HFD
    go_wp2
    go_ret
    exact rd_no HFD.out (unhide HS2) (unhide HB) ((unhide HG0).trans (unhide HG2))
  | some z =>
    obtain ⟨e1, e2⟩ := HV.out z ht
    subst e1; subst e2
    rw [ht] at HFD
    go_wp2
    go_ret
    exact rd_yes HFD.out (unhide HB) ((unhide HG0).trans (unhide HG2))
theorem field_ne : ∀ {l t : List UInt8}, fieldD l = some t → l ≠ [] → t ≠ [] := by
  intro l t h hl
  match l, h with
  | [], _ => exact absurd rfl hl
  | [c], h =>
    unfold fieldD at h
    by_cases hc : c = 0 ∨ c = 9 ∨ c = 10 ∨ c = 92
    · rw [if_pos hc] at h; cases h
    · rw [if_neg hc] at h; cases h; simp
  | c :: d :: r, h =>
    unfold fieldD at h
    by_cases hc : c = 0 ∨ c = 9 ∨ c = 10
    · rw [if_pos hc] at h; cases h
    · rw [if_neg hc] at h
      by_cases h92 : c = 92
      · rw [if_pos h92] at h
        cases he : escD d with
        | none => rw [he] at h; cases h
        | some e =>
          rw [he] at h
          cases hr : fieldD r with
          | none => rw [hr] at h; cases h
          | some u => rw [hr] at h; cases h; simp
      · rw [if_neg h92] at h
        cases hr : fieldD (d :: r) with
        | none => rw [hr] at h; cases h
        | some u => rw [hr] at h; cases h; simp
theorem text_ne {y t : ByteArray} (h : textD y = some t) (hy : 1 ≤ y.size) : 1 ≤ t.size := by
  unfold textD at h
  cases e : fieldD y.data.toList with
  | none => rw [e] at h; cases h
  | some u =>
    rw [e] at h; cases h
    have h1 : y.data.toList ≠ [] := fun e2 => by have := size_list y; rw [e2] at this; simp at this; omega
    have h2 := field_ne e h1
    have h3 : (bs u).size = u.length := by rw [← size_list]; rfl
    rw [h3]
    cases u with
    | nil => exact absurd rfl h2
    | cons a b => simp
set_option maxHeartbeats 1000000 in
theorem readLink_any {C : Nat} {A : Ads} (b g off cap : Nat) (ys : List ByteArray) (w : World) (hbox : BoxZ w b) (hsent : Sent C A w) (hC : C ≤ w.heap.size) (hCb : C ≤ b) (hl : ys.length ≤ 1000000) (hgb : g ≠ b) (hx : HasStrs w g off ys) (hy : ∀ y ∈ ys, y.size ≤ 100000) :
    Calls Tryz.prog 66 #[.pointer (some ⟨b, 0, none⟩), .slice (some ⟨g, off, none⟩) ys.length cap] w (RdPost A b (fieldsD 108 ys) w) := by
  obtain ⟨d0, _, _, _, _, _, _, df⟩ := hbox.cells
  have f0 := df 0
  have hg0 := set_grown w b 0 (.int .u8 108)
  have hs0 := hsent.grown hg0 hCb hC
  have hbx0 := hbox.set0 108
  have hc00 := hs0.c0
  have HS0 := hide hs0
  have HBX := hide hbx0
  have HG0 := hide hg0
  have hbg : ¬ b = g := fun e => hgb e.symm
  clear df
  by_cases hn : ys.length = 1
  · obtain ⟨y0, rfl⟩ : ∃ a, ys = [a] := by
      match ys, hn with
      | [a], _ => exact ⟨a, rfl⟩
    have x0 : w.cell? ⟨g, off, none⟩ = some (.string y0) := hx 0 y0 rfl
    have z0 := hy y0 (by simp)
    cases hE : y0.toList.isEmpty
    · have HT := hide (readText_any (A := A) y0 b 108 (bs []) 0 0 0 (bs []) (.slice none 0 0) (w.setCell ⟨b, 0, none⟩ (.int .u8 108)).drew z0 (show BoxP (World.drew _) _ _ _ _ _ _ _ _ from hbx0) (hs0.below (Below.refl _ _).drew) (by simpa using hC))
      have HTN : Hid (∀ t, textD y0 = some t → fieldsD 108 [y0] = some (108, 0, 0, t)) := by
        intro t ht
        rw [fD_l, ht]
        simp only [Option.bind_some]
        rw [if_neg (by have := text_ne ht (emp_size_no hE); omega)]
      have HTO : Hid (textD y0 = none → fieldsD 108 [y0] = none) := by
        intro ht; rw [fD_l, ht]; rfl
      clear hx hy hbox hsent hg0 hs0 hbx0
      go_enter Tryz.func66, Tryz.ntmps66
      go_wp2_with fail
      go_region_with (go_at_call 88; refine (unhide HT).mono ?_; rintro e w2 ⟨rfl, hbx2, hg2⟩)
      have HS2 := hide (((unhide HS0).below (Below.refl _ _).drew).grown hg2 hCb (by simpa using hC))
      have HB2 := hide hbx2
      have HG2 : Hid (w.grownBy w2 (some b)) := ((unhide HG0).trans (grown_of_belowP (Below.refl _ _).drew)).trans hg2
      clear hbx2 hg2
      cases ht : textD y0 with
      | none =>
        rw [ht] at HB2
        have HR := hide (HTO.out ht)
        go_wp2
        go_ret
        exact rd_no HR.out (unhide HS2) (unhide HB2) (unhide HG2)
      | some t =>
        rw [ht] at HB2
        have HR := hide (HTN.out t ht)
        go_wp2
        go_ret
        exact rd_yes HR.out (unhide HB2) (unhide HG2)
    · have HR : Hid (fieldsD 108 [y0] = none) := by
        have hz := emp_size hE
        have e : textD y0 = some (bs []) := by
          unfold textD
          have : y0.data.toList = [] := List.eq_nil_of_length_eq_zero (by rw [size_list]; exact hz)
          rw [this]; rfl
        unfold Hid; rw [fD_l, e]; rfl
      clear hx hy hbox hsent hg0 hs0 hbx0
      go_enter Tryz.func66, Tryz.ntmps66
      go_wp2
      go_ret
      exact rd_no HR.out (unhide HS0) (unhide HBX) (unhide HG0)
  · have hnn : ((ys.length : Int) != 1) = true := by rw [bne_iff_ne]; omega
    have HR := hide (fD_l_no hn)
    clear hx hy hbox hsent hg0 hs0 hbx0
    go_enter Tryz.func66, Tryz.ntmps66
    go_wp2
    go_ret
    exact rd_no HR.out (unhide HS0) (unhide HBX) (unhide HG0)
end Go.Proofs.YtconbmfbokpklaaGreatDoor
