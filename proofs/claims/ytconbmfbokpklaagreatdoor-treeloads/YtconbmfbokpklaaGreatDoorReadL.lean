/- What a line says by itself. -/
import Derived.Test.YtconbmfbokpklaaGreatDoorGMaps
import Derived.Test.YtconbmfbokpklaaGreatDoorContentE
namespace Go.Proofs.YtconbmfbokpklaaGreatDoor
open Go.RowKit Go.Maps

theorem kfn_cases {k : List UInt8} {f : Nat} (h : kfn k = some f) : (k = [108] ∧ f = 66) ∨ (k = [116] ∧ f = 65) ∨ (k = [102] ∧ f = 64) ∨ (k = [120] ∧ f = 63) ∨ (k = [100] ∧ f = 62) := by
  unfold kfn at h
  repeat' split at h
  all_goals first | (cases h; simp_all) | cases h
theorem kfn_head {key : ByteArray} {f : Nat} (h : kfn key.data.toList = some f) : (headI key = 108 ∧ f = 66) ∨ (headI key = 116 ∧ f = 65) ∨ (headI key = 102 ∧ f = 64) ∨ (headI key = 120 ∧ f = 63) ∨ (headI key = 100 ∧ f = 62) := by
  unfold headI
  rcases kfn_cases h with ⟨e, rfl⟩ | ⟨e, rfl⟩ | ⟨e, rfl⟩ | ⟨e, rfl⟩ | ⟨e, rfl⟩ <;> rw [e] <;> decide
/-- The reader of a sign. -/
theorem reader_any {C : Nat} {A : Ads} (key : ByteArray) (f : Nat) (hk : kfn key.data.toList = some f) (b g off cap : Nat) (ys : List ByteArray) (w : World) (hbox : BoxZ w b) (hsent : Sent C A w) (hC : C ≤ w.heap.size) (hCb : C ≤ b) (hgb : g ≠ b) (hx : HasStrs w g off ys) (hy : ∀ y ∈ ys, y.size ≤ 100000) (hcap : ys.length ≤ cap) (hl : ys.length ≤ 1000000) :
    Calls Tryz.prog f #[.pointer (some ⟨b, 0, none⟩), .slice (some ⟨g, off, none⟩) ys.length cap] w (RdPost A b (fieldsD (headI key) ys) w) := by
  rcases kfn_head hk with ⟨e, rfl⟩ | ⟨e, rfl⟩ | ⟨e, rfl⟩ | ⟨e, rfl⟩ | ⟨e, rfl⟩ <;> rw [e]
  · exact readLink_any b g off cap ys w hbox hsent hC hCb hl hgb hx hy
  · exact readContent_any b g off cap ys w hbox hsent hC hCb hgb hx hy hcap hl
  · exact readFile_any b g off cap ys w hbox hsent hC hCb hl hgb hx (fun y h => Nat.le_trans (hy y h) (by omega))
  · exact readShut_any b _ cap ys w hbox hsent hC hCb hl
  · exact readDir_any b _ cap ys w hbox hsent hC hCb hl
theorem fields_unknown {key : ByteArray} (h : kfn key.data.toList = none) (ys : List ByteArray) : fieldsD (headI key) ys = none := by
  have hh : headI key ≠ 100 ∧ headI key ≠ 120 ∧ headI key ≠ 102 ∧ headI key ≠ 116 ∧ headI key ≠ 108 := by
    unfold headI
    unfold kfn at h
    split
    · rename_i c e
      rw [e] at h
      have hc : c ≠ 108 ∧ c ≠ 116 ∧ c ≠ 102 ∧ c ≠ 120 ∧ c ≠ 100 := by
        refine ⟨?_, ?_, ?_, ?_, ?_⟩ <;> (intro e2; subst e2; simp at h)
      have ne : ∀ d : UInt8, c ≠ d → ((c.toNat : Int) ≠ (d.toNat : Int)) := fun d hd e2 => hd (UInt8.toNat_inj.1 (Int.ofNat.inj e2))
      exact ⟨ne 100 hc.2.2.2.2, ne 120 hc.2.2.2.1, ne 102 hc.2.2.1, ne 116 hc.2.1, ne 108 hc.1⟩
    · omega
  unfold fieldsD
  rw [if_neg (by rintro (e | e); exact hh.1 e; exact hh.2.1 e), if_neg hh.2.2.1, if_neg hh.2.2.2.1, if_neg hh.2.2.2.2]
/-- What read answers of a line. -/
def RLCase (A : Ads) (p : Value × List Addr) (k sz tm : Int) (tx way : ByteArray) : Option LineD → Prop
  | some ln => p = (.nilIface, []) ∧ ln = ⟨(k, sz, tm, tx), way⟩
  | none => TextErr A p
def RLPost (A : Ads) (r : Option LineD) (M : Nat) (w : World) (e : Ending) (w' : World) : Prop :=
  ∃ (p : Value × List Addr) (k sz tm : Int) (tx way : ByteArray), e = .returned (.tuple #[.agg #[.int .u8 k, .string (bs []), .int .i64 0, .int .i64 sz, .int .i64 tm, .string tx, .slice none 0 0], .string way, p.1]) ∧ OErr w' p ∧ RLCase A p k sz tm tx way r ∧ way.size ≤ M ∧ Below w.heap.size w w'
theorem rl_text {C : Nat} {A : Ads} {r : Option LineD} {M : Nat} {w w' : World} (hr : r = none) (hs : Sent C A w') (hb : Below w.heap.size w w') : RLPost A r M w (.returned (.tuple #[.agg #[.int .u8 0, .string (bs []), .int .i64 0, .int .i64 0, .int .i64 0, .string (bs []), .slice none 0 0], .string (bs []), .iface 207 (.pointer (some A.t))])) w' := by
  subst hr
  exact ⟨errT A false, 0, 0, 0, bs [], bs [], rfl, errT_O hs false, errT_text A, Nat.zero_le _, hb⟩
def zeroO : Obj := .cells #[.int .u8 0, .string ⟨#[]⟩, .int .i64 0, .int .i64 0, .int .i64 0, .string ⟨#[]⟩, .slice none 0 0] 33
theorem line_unknown {s key : ByteArray} {rest : List ByteArray} (e : cutS 9 s = key :: rest) (h : kfn key.data.toList = none) : lineD s = none := by
  unfold lineD
  rw [e]
  match rest with
  | [] => rfl
  | way :: ys => simp only [fields_unknown h ys]; split <;> rfl
theorem line_short {s key : ByteArray} (e : cutS 9 s = [key]) : lineD s = none := by
  unfold lineD
  rw [e]
theorem rl_text7 {C : Nat} {A : Ads} {r : Option LineD} {M : Nat} {w W2 : World} {x0 x1 x2 x3 x4 x5 x6 : Value} (hr : r = none) (hs : Sent C A w) (hC : C ≤ w.heap.size) (hb : Below w.heap.size w W2) :
    RLPost A r M w (.returned (.tuple #[.agg #[.int .u8 0, .string ⟨#[]⟩, .int .i64 0, .int .i64 0, .int .i64 0, .string ⟨#[]⟩, .slice none 0 0], .string ⟨#[]⟩, .iface 207 (.pointer (some A.t))])) (((((((W2.setCell ⟨w.heap.size, 0, none⟩ x0).setCell ⟨w.heap.size, 1, none⟩ x1).setCell ⟨w.heap.size, 2, none⟩ x2).setCell ⟨w.heap.size, 3, none⟩ x3).setCell ⟨w.heap.size, 4, none⟩ x4).setCell ⟨w.heap.size, 5, none⟩ x5).setCell ⟨w.heap.size, 6, none⟩ x6).drew := by
  have hb2 := (below7 (x0 := x0) (x1 := x1) (x2 := x2) (x3 := x3) (x4 := x4) (x5 := x5) (x6 := x6) hb (Nat.le_refl _)).drew
  exact rl_text hr (hs.below (hb2.mono hC)) hb2
theorem box_cells33 {W : World} {b : Nat} {x0 x1 x2 x3 x4 x5 x6 : Value} (h : W.heap[b]? = some (.cells #[x0, x1, x2, x3, x4, x5, x6] 33)) :
    W.cell? ⟨b, 0, none⟩ = some x0 ∧ W.cell? ⟨b, 1, none⟩ = some x1 ∧ W.cell? ⟨b, 2, none⟩ = some x2 ∧ W.cell? ⟨b, 3, none⟩ = some x3 ∧ W.cell? ⟨b, 4, none⟩ = some x4 ∧ W.cell? ⟨b, 5, none⟩ = some x5 ∧ W.cell? ⟨b, 6, none⟩ = some x6 ∧ ∀ j, W.frozen? ⟨b, j, none⟩ = false := by
  simp [World.cell?, World.frozen?, h]
theorem row_cap {B t size n m g cap : Nat} {W : World} {xs : List Value} (h : W.ownsRow B t size (.slice (some ⟨g, 0, none⟩) m cap) n xs) : n ≤ cap := by
  rcases h.2 with ⟨e, _⟩ | ⟨g', cap', cur, e, _, _, hn, _⟩
  · cases e
  · cases e; exact hn
def JHas (p q : Value × List Addr) (w2 : World) (v : Value) (w' : World) : Prop := ∃ x : Value × List Addr, v = x.1 ∧ OErr w' x ∧ x.2 = p.2 ++ q.2 ∧ nn x = (nn p || nn q) ∧ Below w2.heap.size w2 w'
theorem join2 (p q : Value × List Addr) (w2 : World) (hp : OErr w2 p) (hq : OErr w2 q) : Calls Tryz.prog 39 #[.slice (some ⟨w2.heap.size, 0, none⟩) 2 2] (w2.alloc (.cells #[p.1, q.1] 48)) (fun e w' => ∃ v, e = .returned v ∧ JHas p q w2 v w') := by
  have hal : Below w2.heap.size w2 (w2.alloc (.cells #[p.1, q.1] 48)) := (Below.refl _ _).alloc (Nat.le_refl _) _
  refine (join_any w2.heap.size 2 [p, q] _ (fun j x hx => ?_) (by simp) (by simp) (fun x hx => ?_)).mono ?_
  · match j, hx with
    | 0, hx => cases hx; rw [World.cell?_alloc_at _ _ _ _ rfl]; rfl
    | 1, hx => cases hx; rw [World.cell?_alloc_at _ _ _ _ rfl]; rfl
    | j + 2, hx => cases hx
  · simp at hx
    rcases hx with rfl | rfl
    · exact hp.below hal
    · exact hq.below hal
  · rintro e w' ⟨x, rfl, h1, h2, h3, h4⟩
    refine ⟨_, rfl, x, rfl, h1, by rw [h2]; simp, ?_, hal.trans (h4.mono hal.size)⟩
    rw [h3]
    cases e1 : nn p <;> cases e2 : nn q <;> simp [e1, e2]
set_option maxHeartbeats 1000000 in
set_option maxRecDepth 100000 in
theorem read_short {C : Nat} {A : Ads} (c bm br : Nat) (nv : Value) (line : ByteArray) (w : World) (hb : BoxB w c nv bm br) (hrd : w.ownsMap Tryz.prog 9 fnElem br 5 rdD) (hs : Sent C A w) (hC : C ≤ w.heap.size) (hline : line.size ≤ 20000) (hsh : ∀ key way ys f, cutS 9 line = key :: way :: ys → ¬ kfn key.data.toList = some f) : Calls Tryz.prog 37 #[.pointer (some ⟨c, 0, none⟩), .string line] w (RLPost A (lineD line) line.size w) := by
  obtain ⟨W0, hW0⟩ : ∃ W0, w.alloc zeroO = W0 := ⟨_, rfl⟩
  have hal : Below w.heap.size w W0 := by rw [← hW0]; exact (Below.refl _ _).alloc (Nat.le_refl _) _
  have hr0 : W0.heap[w.heap.size]? = some zeroO := by rw [← hW0]; exact alloc_self w zeroO
  have hs0 : w.heap.size < W0.heap.size := (Array.getElem?_eq_some_iff.1 hr0).1
  unfold zeroO at hW0 hr0
  have HS := hide hs
  have HSP := hide (split_c line 9 W0 (by omega))
  have hcl : c < w.heap.size := (Array.getElem?_eq_some_iff.1 hb).1
  have hbrl := hrd.lt
  have hlen : (cutS 9 line).length ≤ 20001 := Nat.le_trans (cutS_length 9 line) (by omega)
  have hpc := cutS_le 9 line
  go_enter Tryz.func37, Tryz.ntmps37
  go_wp2_with fail
  refine (unhide HSP).mono ?_
  rintro e w1 ⟨v, rfl, hown, hb01⟩
  have hb1 : Below w.heap.size w w1 := hal.trans (hb01.mono (by omega))
  have hr1 : w1.heap[w.heap.size]? = _ := (hb01.block _ hs0).trans hr0
  have hb1' : BoxB w1 c nv bm br := (hb1.block c hcl).trans hb
  have hrd1 := map_same hrd (hb1.block br hbrl)
  have hs1 := hs.below (hb1.mono hC)
  have hC1 : C ≤ w1.heap.size := Nat.le_trans hC hb1.size
  obtain ⟨b0, b1, b2, bf⟩ := hb1'.cells
  have g0 := hs1.c0
  clear hs
  cases e1 : cutS 9 line with
  | nil => exact absurd e1 (cutS_ne' 9 line)
  | cons key rest =>
    rw [e1] at hown hlen
    obtain ⟨g, cap, rfl⟩ := ownsRow_succ hown
    have hkey : w1.cell? ⟨g, 0, none⟩ = some (.string key) := own_cells hown rfl
    have hks : key.size ≤ 20000 := Nat.le_trans (hpc key (by rw [e1]; simp)) hline
    have hlook : ∀ n, (Instr.lookup 52 (.map (some br)) (.string key) true).run Tryz.prog (w1.drewN n) = .ok (.tuple #[fnV (kfn key.data.toList), .bool (kfn key.data.toList).isSome]) (w1.drewN n) := fun n => rd_look (show (w1.drewN n).ownsMap _ _ _ _ _ _ from hrd1) key (by unfold maxLen; omega)
    have HOWN := hide hown
    cases ek : kfn key.data.toList with
    | none =>
      simp only [ek, fnV, Option.isSome] at hlook
      have HR := hide (line_unknown e1 ek)
      have HS1 := hide hs1
      clear ek e1 hown hb hb1' hs1 hrd hrd1 HSP hpc bf
      have hl1 : (0 : Int) < ((rest.length + 1 : Nat) : Int) := by omega
      go_wp2
      go_quiet (fail)
      obtain ⟨W2, hW2⟩ : ∃ W2, w1.drewN nq = W2 := ⟨_, rfl⟩
      rw [hW2]
      have hd2 : Below w1.heap.size w1 W2 := by rw [← hW2]; exact below_drewN (Below.refl _ _) nq
      have g02 : W2.cell? ⟨0, 0, none⟩ = some (.iface 207 (.pointer (some A.t))) := by rw [← hW2]; exact g0
      have hr2 : W2.heap[w.heap.size]? = _ := (hd2.block _ (by have := hb01.size; omega)).trans hr1
      obtain ⟨z0, z1, z2, z3, z4, z5, z6, zf⟩ := box_cells33 hr2
      have HB2 : Hid (Below w.heap.size w W2) := hb1.trans (hd2.mono hb1.size)
      clear hlook hd2 hb1 hb01 hal hr0 hr1 hW2 hW0 hkey b0 b1 b2 HOWN HS1
      go_wp2
      go_region_with (fail)
      all_goals
        go_wp2
        refine bodyPost_ret (v := .tuple #[.agg #[.int .u8 0, .string ⟨#[]⟩, .int .i64 0, .int .i64 0, .int .i64 0, .string ⟨#[]⟩, .slice none 0 0], .string ⟨#[]⟩, .iface 207 (.pointer (some A.t))]) (by simp [results, Tryz.results37, go_sem, z0, z1, z2, z3, z4, z5, z6]) rfl ?_
        exact rl_text7 HR.out HS.out hC (unhide HB2)
    | some f =>
      simp only [ek, fnV, Option.isSome] at hlook
      cases rest with
      | nil =>
        have HR := hide (line_short e1)
        have HS1 := hide hs1
        clear ek e1 hown hb hb1' hs1 hrd hrd1 HSP hpc bf
        go_wp2
        go_quiet (fail)
        obtain ⟨W2, hW2⟩ : ∃ W2, w1.drewN nq = W2 := ⟨_, rfl⟩
        rw [hW2]
        have hd2 : Below w1.heap.size w1 W2 := by rw [← hW2]; exact below_drewN (Below.refl _ _) nq
        have g02 : W2.cell? ⟨0, 0, none⟩ = some (.iface 207 (.pointer (some A.t))) := by rw [← hW2]; exact g0
        have hr2 : W2.heap[w.heap.size]? = _ := (hd2.block _ (by have := hb01.size; omega)).trans hr1
        obtain ⟨z0, z1, z2, z3, z4, z5, z6, zf⟩ := box_cells33 hr2
        have HB2 : Hid (Below w.heap.size w W2) := hb1.trans (hd2.mono hb1.size)
        clear hlook hd2 hb1 hb01 hal hr0 hr1 hW2 hW0 hkey b0 b1 b2 HOWN HS1
        go_wp2
        go_region_with (fail)
        all_goals
          go_wp2
          refine bodyPost_ret (v := .tuple #[.agg #[.int .u8 0, .string ⟨#[]⟩, .int .i64 0, .int .i64 0, .int .i64 0, .string ⟨#[]⟩, .slice none 0 0], .string ⟨#[]⟩, .iface 207 (.pointer (some A.t))]) (by simp [results, Tryz.results37, go_sem, z0, z1, z2, z3, z4, z5, z6]) rfl ?_
          exact rl_text7 HR.out HS.out hC (unhide HB2)
      | cons way ys =>
        exact absurd ek (hsh key way ys f e1)
end Go.Proofs.YtconbmfbokpklaaGreatDoor
