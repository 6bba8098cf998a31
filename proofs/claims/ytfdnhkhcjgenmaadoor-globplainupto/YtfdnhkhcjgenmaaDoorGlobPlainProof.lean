import Derived.Test.YtfdnhkhcjgenmaaDoorGhAll
import Derived.Test.YtfdnhkhcjgenmaaDoorCards
import Derived.Test.YtfdnhkhcjgenmaaDoorTie
import Derived.Shelf.Vars
import Derived.WalkKit
import Derived.ProofKit
import Derived.OpenShut
import Derived.ShutString
import Derived.ChangeOld
import Derived.Below
import Derived.Carry
import Derived.Deep.DeepHandedRow
import Derived.Lib.LaidTab
namespace Go.Proofs.YtfdnhkhcjgenmaaDoor
open Go.RowKit Go.Maps

def escD (l : List UInt8) : List UInt8 := l.flatMap (fun c => [92, c])
theorem escD_snoc (l : List UInt8) (c : UInt8) : escD (l ++ [c]) = escD l ++ [92, c] := by unfold escD; simp
theorem escD_len (l : List UInt8) : (escD l).length = 2 * l.length := by
  induction l with
  | nil => rfl
  | cons c l ih =>
    have : escD (c :: l) = 92 :: c :: escD l := rfl
    rw [this, List.length_cons, List.length_cons, ih, List.length_cons]
    omega
theorem patD_esc : ∀ (l : List UInt8) (n : Nat), 2 * l.length ≤ n → patD n (escD l) = .ok (l.map PcD.lit) := by
  intro l
  induction l with
  | nil => intro n _; cases n <;> rfl
  | cons c l ih =>
    intro n hn
    rw [List.length_cons] at hn
    obtain ⟨n', rfl⟩ : ∃ n', n = n' + 1 := ⟨n - 1, by omega⟩
    have e : escD (c :: l) = 92 :: c :: escD l := rfl
    have hp : pieceD (92 :: c :: escD l) = .ok (.lit c) (escD l) := rfl
    rw [e, patD]
    simp only [hp]
    rw [ih n' (by omega)]
    rfl
theorem lits_in (way : Bool) : ∀ (l t : List UInt8), PsIn way (l.map PcD.lit) t ↔ t = l := by
  intro l
  induction l with
  | nil =>
    intro t
    constructor
    · intro h; cases h; rfl
    · rintro rfl; exact .nil
  | cons c l ih =>
    intro t
    constructor
    · intro h
      cases h with
      | cons _ _ a b h1 h2 =>
        have e1 : a = [c] := h1
        have e2 := (ih b).1 h2
        rw [e1, e2]
        rfl
    · rintro rfl
      exact .cons (.lit c) (l.map PcD.lit) [c] l rfl ((ih l).2 rfl)
theorem begins_self (l : List UInt8) : beginsB l l = true := by unfold beginsB; cases Lib.hasPrefix l [46] <;> rfl
theorem lits_written (l : List UInt8) : (l.map PcD.lit).map writtenD = l := by
  induction l with
  | nil => rfl
  | cons c l ih => rw [List.map_cons, List.map_cons, ih]; rfl
theorem lits_dots (way : Bool) (s : ByteArray) : dotsOk way (s.data.toList.map PcD.lit) s := by
  unfold dotsOk
  rw [lits_written]
  split
  · intro k x hx
    have e : (⟨s.data.toList.toArray⟩ : ByteArray) = s := (bs_eq rfl).symm
    rw [e]
    have : (cutS 47 s).getD k ⟨#[]⟩ = x := by rw [List.getD_eq_getElem?_getD, hx]; rfl
    rw [this]
    exact begins_self _
  · exact begins_self _
theorem gall_any (s t : ByteArray) (way dot : Bool) (w : World) (hG : GW w) (ht : t.size ≤ 1000000000) :
    Calls Tryd.prog 12 #[.string s, .string t, .bool way, .bool dot] w fun e w' => ∃ r, e = .returned (.tuple #[.bool r, .int .i64 (wrongD s : Int)]) ∧ (wrongD s ≠ 0 → r = false) ∧ (∀ ps, wrongD s = 0 → patD s.size s.data.toList = .ok ps → (r = true ↔ InE (meanD way ps) t.data.toList ∧ (dot = true → dotsOk way ps t))) ∧ Below w.heap.size w w' := by
  cases dot with
  | true =>
    refine (gdot_any s t way w hG ht).mono ?_
    rintro e w' ⟨r, he, h0, h1, hb⟩
    exact ⟨r, he, h0, fun ps a b => (h1 ps a b).trans ⟨fun h => ⟨h.1, fun _ => h.2⟩, fun h => ⟨h.1, h.2 rfl⟩⟩, hb⟩
  | false =>
    refine (gflat_any s t way w hG ht).mono ?_
    rintro e w' ⟨r, he, h0, h1, hb⟩
    exact ⟨r, he, h0, fun ps a b => (h1 ps a b).trans ⟨fun h => ⟨h, fun h => (by cases h)⟩, fun h => h.1⟩, hb⟩
/-- What Match answers of a text with a \\ ahead of each byte. -/
theorem esc_any (s p t : ByteArray) (way dot : Bool) (w : World) (hG : GW w) (ht : t.size ≤ 1000000000) (hp : p = ⟨(escD s.data.toList).toArray⟩) :
    Calls Tryd.prog 12 #[.string p, .string t, .bool way, .bool dot] w fun e w' => ∃ r, e = .returned (.tuple #[.bool r, .int .i64 (if 200 < 2 * s.size then 1 else 0 : Int)]) ∧ (200 < 2 * s.size → r = false) ∧ (¬ 200 < 2 * s.size → r = (s.toList == t.toList)) ∧ Below w.heap.size w w' := by
  have hps : p.size = 2 * s.size := by
    rw [hp]
    show (escD s.data.toList).toArray.size = _
    rw [List.size_toArray, escD_len, len_list]
  have hpl : p.data.toList = escD s.data.toList := by rw [hp]
  have hpat : patD p.size p.data.toList = .ok (s.data.toList.map PcD.lit) := by
    rw [hpl, hps]
    exact patD_esc _ _ (by rw [len_list]; exact Nat.le_refl _)
  refine (gall_any p t way dot w hG ht).mono ?_
  rintro e w' ⟨r, rfl, h0, h1, hb⟩
  by_cases hl : 200 < 2 * s.size
  · have hw : wrongD p = 1 := by unfold wrongD; rw [if_pos (by omega)]
    exact ⟨r, by rw [hw, if_pos hl]; rfl, fun _ => h0 (by rw [hw]; decide), fun h => absurd hl h, hb⟩
  · have hw : wrongD p = 0 := wrongD_ok (by omega) hpat
    refine ⟨r, by rw [hw, if_neg hl]; rfl, fun h => absurd h hl, fun _ => ?_, hb⟩
    have hr := h1 _ hw hpat
    rw [psIn_iff, lits_in] at hr
    rw [Bool.eq_iff_iff, hr, beq_iff_eq, ByteArray.toList_eq, ByteArray.toList_eq]
    constructor
    · intro h; exact h.1.symm
    · intro h
      refine ⟨h.symm, fun _ => ?_⟩
      have e : s = t := by rw [bs_eq h, ← bs_eq (s := t) rfl]
      rw [← e]
      exact lits_dots way s
set_option maxRecDepth 100000 in
set_option maxHeartbeats 8000000 in
theorem plain_any (s t : ByteArray) (way dot : Bool) (w : World) (hG : GW w) (hs : s.size ≤ 100000000) (ht : t.size ≤ 1000000000) :
    Calls Tryd.prog 7 #[.string s, .string t, .bool way, .bool dot] w fun e w' => e = .returned (.bool true) ∧ Below w.heap.size w w' := by
  have HG := hide hG
  clear hG
  obtain ⟨i0, hi0, hz0, hz1, hz2⟩ := info_parts Tryd.info5'
  go_enter Tryd.func7, Tryd.ntmps7
  go_wp2
  go_loopw [9, 10] (fun ov iv wr => ∃ (i : Nat), iv = .int .i64 (i : Int) ∧ i ≤ s.size ∧ wr.ownsRow w.heap.size 5 1 ov (2 * i) (u8s (escD (s.data.toList.take i))) ∧ Below w.heap.size w wr) (fun _ iv _ => s.size - (intOf iv).toNat)
  case atStart => exact ⟨0, rfl, by omega, ⟨rfl, .inl ⟨rfl, rfl⟩⟩, Below.refl _ _⟩
  case round =>
    obtain ⟨i, rfl, hi, hown, hb⟩ := hrel
    obtain ⟨oa, oc, hov⟩ : ∃ a c, u9 = .slice a (2 * i) c := by
      rcases hown.2 with ⟨e, h0⟩ | ⟨g, cap, cur, e, _⟩
      · exact ⟨_, _, by rw [e]; congr 1; omega⟩
      · exact ⟨_, _, e⟩
    subst hov
    have hbs := hb.size
    by_cases hlt : i < s.size
    · have hiI : (i : Int) < (s.size : Int) := by omega
      have hmaxl : 2 * i + 2 ≤ maxLen := by unfold maxLen; omega
      have hx : u8s (escD (s.data.toList.take i)) ++ [.int .u8 92, .int .u8 ((s[i]'hlt).toNat : Int)] = u8s (escD (s.data.toList.take (i + 1))) := by
        have e1 : s.data.toList.take (i + 1) = s.data.toList.take i ++ [s[i]'hlt] := by
          rw [List.take_add_one, List.getElem?_eq_getElem (by simpa using hlt)]
          rfl
        rw [e1, escD_snoc, u8s_append]
        rfl
      have HX := hide hx
      have HON := hide hown
      have HB := hide hb
      clear hown hb hx
      go_wp2_with (at_builtin; refine wpList_append_lies _ rfl (.tmp 19) (.tmp 23) 45 rfl w.heap.size 5 i0 _ 1 1 Tryd.u45 hi0 hz0 hz1 hz2 rfl (by decide) (.slice oa (2 * i) oc) (2 * i) (u8s (escD (s.data.toList.take i))) rfl (HON.out.alloc _) ⟨wr.heap.size, 0, none⟩ 2 2 [.int .u8 92, .int .u8 ((s[i]'hlt).toNat : Int)] rfl rfl (news2 _ _ _ _) (by simp [Value.oneCell']) (by decide) hmaxl (by omega) (by simp; omega) _ rfl ?_; intro g1 c1 w1 hown1 hgr1 hat1 hlt1)
      go_roundw
      case rel =>
        refine ⟨i + 1, by simp, by omega, ?_, grow_row2 HB.out HON.out hgr1⟩
        rw [← HX.out]
        exact hown1
      case measure => simp [intOf]; omega
    · have hiI : ¬ ((i : Int) < (s.size : Int)) := by omega
      have hie : i = s.size := by omega
      subst hie
      rw [List.take_of_length_le (by rw [len_list]; exact Nat.le_refl _)] at hown
      have hcv := conv_any (l := escD s.data.toList) (by rw [escD_len, len_list]; exact hown)
      obtain ⟨p, hp⟩ : ∃ p : ByteArray, p = ⟨(escD s.data.toList).toArray⟩ := ⟨_, rfl⟩
      rw [← hp] at hcv
      have hma := esc_any s p t way dot wr (HG.out.below hb) ht hp
      have HB := hide hb
      clear hown hb hp
      by_cases hl : 200 < 2 * s.size
      · have hlI : (200 : Int) < ((2 * s.size : Nat) : Int) := by omega
        simp only [if_pos hl] at hma
        have HMA := hide hma
        clear hma
        go_wp2_with fail
        refine HMA.out.mono ?_
        rintro e w2 ⟨r, rfl, hr, _, b2⟩
        have hr0 := hr hl
        subst hr0
        have HB2 : Hid (Below w.heap.size w w2) := HB.out.trans (b2.mono HB.out.size)
        have hnu := num2_any 1 w2
        have hlI2 : (200 : Int) < 2 * (s.size : Int) := by omega
        clear hr b2 HMA HB
        go_wp2_with (go_at_call 14; refine hnu.mono ?_; rintro e w3 ⟨rfl, hw⟩; rw [hw]; clear hw)
        exact bodyPost_ret (v := .bool true) (by simp [results, Tryd.results7, go_sem]) rfl ⟨rfl, HB2.out⟩
      · simp only [if_neg hl] at hma
        have HMA := hide hma
        clear hma
        go_wp2_with fail
        refine HMA.out.mono ?_
        rintro e w2 ⟨r, rfl, _, hr, b2⟩
        have hr0 := hr hl
        have HR0 := hide hr0
        have HB2 : Hid (Below w.heap.size w w2) := HB.out.trans (b2.mono HB.out.size)
        have hnu := num2_any 0 w2
        have hlI2 : ¬ ((200 : Int) < 2 * (s.size : Int)) := by omega
        have hlI : ¬ ((200 : Int) < ((2 * s.size : Nat) : Int)) := by omega
        clear hr b2 HMA HB hr0
        go_wp2_with (go_at_call 14; refine hnu.mono ?_; rintro e w3 ⟨rfl, hw⟩; rw [hw]; clear hw)
        exact bodyPost_ret (v := .bool true) (by simp [results, Tryd.results7, go_sem, HR0.out]) rfl ⟨rfl, HB2.out⟩
end Go.Proofs.YtfdnhkhcjgenmaaDoor
namespace Go.Proofs.YtfdnhkhcjgenmaaDoor.globPlain
open Go.ChangeShapes Go.WideShapes Go.ChangeAt Go.RowKit
open Go.ChangeMaps (open_string shut_string)

theorem cell_lt {W : World} {p : Addr} {v : Value} (h : W.cell? p = some v) : p.block < W.heap.size := by
  by_cases hlt : p.block < W.heap.size
  · exact hlt
  · unfold World.cell? at h
    rw [Array.getElem?_eq_none (by omega)] at h
    cases h
theorem own : ownKnob Tryd.prog.godebug = none := by kernel_rfl
theorem tab_head {L rest : List (String × DataW Unit)} {W : World} (h : laidMet Tryd.prog L W) (hL : L = ("math/bits.deBruijn64tab", Lib.tabData .u8 (Lib.deBruijn64tab.map fun (n : Nat) => (n : Int))) :: rest) : TabW W := by
  subst hL
  have ht := Lib.tabIs_of_head (P := Tryd.prog) (g := 0) (t := 148) (by kernel_rfl) (by kernel_rfl) (show Tryd.prog.underlying 148 = some (.array 64 5) by kernel_rfl) (show Tryd.prog.underlying 5 = some (.int .u8) by kernel_rfl) (by kernel_rfl) (by kernel_rfl) h
  intro j hj
  have := ht.cell (show Tryd.prog.globalNamed "math/bits.deBruijn64tab" = some 0 by kernel_rfl) j (by rw [List.length_map]; exact hj)
  rw [this]
  have hj' : j < Lib.deBruijn64tab.length := hj
  simp [List.getD, hj']
theorem tab {W : World} (h : laidMetH Tryd.prog Rows.globPlainUptoRow.laid W) : TabW W := by
  rw [MakeChecks.laidMetH_plain _ _ _ (by kernel_rfl)] at h
  exact tab_head (rest := [("unicode/utf8.acceptRanges", Rows.laid_unicode_utf8_acceptRanges), ("unicode/utf8.first", Rows.laid_unicode_utf8_first)]) h (by kernel_rfl)
theorem maxw {W : World} (h : W.ShapedOpen Tryd.prog) : MaxW W :=
  cell_of_shapedOpen_int (g := 1) (t := 3) (zero := #[.int .i64 0]) h (of_decide_eq_true (by kernel_rfl)) (by kernel_rfl) rfl (by kernel_rfl) (by kernel_rfl) (by kernel_rfl)
/-- The cells of a table. -/
def flat1 : DataW Unit → List Value
  | .lit (.int k n) => [.int k n]
  | _ => []
def flat2 : DataW Unit → List Value
  | .agg ds => ds.flatMap flat1
  | d => flat1 d
def flat3 : DataW Unit → List Value
  | .agg ds => ds.flatMap flat2
  | d => flat1 d
def fill (cs : Array Value) : Obj → Obj
  | .cells _ t frozen => .cells cs t frozen
  | o => o
noncomputable def laidWorld3 (os : Os) : World :=
  { World.holding Tryd.prog os ⟨#[], #[], []⟩ with heap := (((World.holding Tryd.prog os ⟨#[], #[], []⟩).heap.modify 0 (fill (flat3 Rows.laid_math_bits_deBruijn64tab).toArray)).modify 2 (fill (flat3 Rows.laid_unicode_utf8_first).toArray)).modify 3 (fill (flat3 Rows.laid_unicode_utf8_acceptRanges).toArray) }

set_option maxRecDepth 100000 in
theorem contract (H : Type) (enc : TypeId × Value → H) (W : World) (base : Nat) (args : Array Value) (ds gs : List (DataW H)) (before : List MemPlace)
    (hval : ∀ (j : Nat) t v, Tryd.f7.params[j]? = some t → args[j]? = some v → Value.okWide Tryd.prog W .any base t v)
    (hW : DataW.Whole enc Tryd.prog Tryd.f7.params.toList Rows.globPlainSpec.vars false W args.toList ds gs before) (hk : Rows.uptoSmall H (ds ++ gs) = true)
    (hL : laidMetH Tryd.prog Rows.globPlainUptoRow.laid W) (hsh : W.ShapedOpen Tryd.prog) :
    Calls Tryd.prog 7 args W fun e W' => ∃ v, e = .returned v ∧ Rows.globPlainSpec.post enc Tryd.prog Tryd.f7 false true false false W args v W' := by
  have hG : GW W := ⟨maxw hsh, tab hL, by obtain ⟨m, hm⟩ := maxw hsh; exact cell_lt hm⟩
  have hW' := hW
  obtain ⟨p, q, hA0, hV, rfl, hfz, hnd⟩ := hW
  have hA : DataW.TrodAll enc Tryd.prog W 0 (fun _ => true) true Tryd.f7.params.toList args.toList ds p := hA0
  rw [Tryd.params7] at hA hval
  obtain ⟨v0, vs0, d0, ds0, p0, q0, hargs, rfl, rfl, h0, r0⟩ := trodAll_cons hA
  obtain ⟨v1, vs1, d1, ds1, p1, q1, rfl, rfl, rfl, h1, r1⟩ := trodAll_cons r0
  obtain ⟨v2, vs2, d2, ds2, p2, q2, rfl, rfl, rfl, h2, r2⟩ := trodAll_cons r1
  obtain ⟨v3, vs3, d3, ds3, p3, q3, rfl, rfl, rfl, h3, r3⟩ := trodAll_cons r2
  obtain ⟨rfl, rfl, rfl⟩ := trodAll_nil r3
  obtain rfl : args = #[v0, v1, v2, v3] := by cases args; simp_all
  obtain ⟨rfl, rfl⟩ := trodVars_none hV
  obtain ⟨a0, rfl, rfl, rfl, w0⟩ := open_string Tryd.underlying9 (hval 0 9 v0 rfl rfl) h0
  obtain ⟨a1, rfl, rfl, rfl, w1⟩ := open_string Tryd.underlying9 (hval 1 9 v1 rfl rfl) h1
  obtain ⟨b2, rfl, rfl, rfl⟩ := open_bool Tryd.underlying4 (hval 2 4 v2 rfl rfl) h2
  obtain ⟨b3, rfl, rfl, rfl⟩ := open_bool Tryd.underlying4 (hval 3 4 v3 rfl rfl) h3
  clear hA0
  simp only [List.append_nil] at hW'
  have hb := of_decide_eq_true hk
  simp only [List.append_nil, Rows.uptoBulkAll, Rows.uptoBulk] at hb
  have z1 : a1.data.toList.length = a1.size := by rw [Array.length_toList]; rfl
  have z0 : a0.data.toList.length = a0.size := by rw [Array.length_toList]; rfl
  refine (plain_any a0 a1 b2 b3 W hG (by omega) (by omega)).mono fun e W' ⟨he, bel⟩ => ?_
  subst he
  exact ⟨_, rfl, _, _, _, [], _, [], hW', trodAll_mk1 (shut_bool Tryd.underlying4 _), (trodAll_cons_mk (shut_string Tryd.underlying9 w0) (trodAll_cons_mk (shut_string Tryd.underlying9 w1) (trodAll_cons_mk (shut_bool Tryd.underlying4 _) (trodAll_cons_mk (shut_bool Tryd.underlying4 _) trodAll_mk0)))), rfl, bel.frame _, fun h => by cases h⟩

theorem laid_met (os : Os) : laidMetH Tryd.prog Rows.globPlainUptoRow.laid ((laidWorld3 os).forCall (fun _ _ => 0) ⟨#[], #[.string ByteArray.empty, .string ByteArray.empty, .bool false, .bool false], []⟩).memory := by
  rw [MakeChecks.laidMetH_plain _ _ _ (by kernel_rfl)]
  exact laidMet_of_run' 8 (by kernel_rfl) (by kernel_rfl)
theorem reads (os : Os) {H : Type} (enc : TypeId × Value → H) : ∃ places, DataW.whole enc Tryd.prog ((laidWorld3 os).forCall (fun _ _ => 0) ⟨#[], #[.string ByteArray.empty, .string ByteArray.empty, .bool false, .bool false], []⟩).memory Tryd.f7.params.toList Rows.globPlainSpec.vars false #[Value.string ByteArray.empty, Value.string ByteArray.empty, Value.bool false, Value.bool false].toList 8 = some ([.lit (.string []), .lit (.string []), .lit (.bool false), .lit (.bool false)], [], places) :=
  ⟨[], by kernel_rfl⟩

set_option maxRecDepth 100000 in
theorem liftedUpto (os : Os) (started : os.Started) (H : Type) (enc : TypeId × Value → H) (F : Stop.Interp) :
    ReturnsInHanded {} Tryd.checked os 7 .any ((Rows.OpenSpec.upto Rows.globPlainSpec).preRow enc Tryd.prog Tryd.f7 Rows.globPlainUptoRow.domain false Rows.globPlainUptoRow.laid) (((Rows.OpenSpec.upto Rows.globPlainSpec).at F).post enc Tryd.prog Tryd.f7 false true false false) := by
  obtain ⟨places, hx⟩ := reads os enc
  refine returnsInHanded_of_row (C := Tryd.checked) (s := Rows.OpenSpec.upto Rows.globPlainSpec) own started (by kernel_rfl) Tryd.func7
    (witness_row_at (enc := enc) (C := Tryd.checked) false (laidWorld3 os) #[.string ByteArray.empty, .string ByteArray.empty, .bool false, .bool false] rfl (by kernel_rfl) (by kernel_rfl) (by kernel_rfl)
      (OpenSpec.preRow_of_cond 8 hx (by kernel_rfl) (fun k hk => by cases hk; kernel_rfl) (by kernel_rfl) (laid_met os))) ?_
  intro W base args ds gs before hval hW _ hcond _ hL hsh _
  exact contract H enc W base args ds gs before hval hW (hcond _ rfl) hL hsh

theorem saidUpto : Rows.GlobPlainUptoSaid :=
  OpenClaim.holds_of_cond 7 Tryd.f7 rfl rfl rfl rfl rfl rfl rfl ⟨rfl, rfl, rfl, rfl, rfl⟩ rfl rfl rfl rfl rfl (by kernel_rfl) Tryd.func7 (by kernel_rfl)
    (of_decide_eq_true (by kernel_rfl)) (by unfold Func.isWrapper; first | (rw [if_pos (by decide +kernel)]; kernel_rfl) | (rw [if_neg (by decide +kernel)]; exact ⟨rfl, rfl⟩))
    (fun os started H enc _ F => by rw [OpenClaim.pre_eq_preRow]; exact liftedUpto os started H enc F)

theorem plain (f : FuncId) (fn : Func) (hf : Tryd.pinned.checked.prog.funcNamed "sieve/sievelaw.GlobPlain" = some f) (hfn : Tryd.pinned.checked.prog.funcs[f]? = some fn) :
    false = Tryd.pinned.checked.prog.looks [] ∧ ∀ (j : Nat) t, fn.params[j]? = some t → Tryd.pinned.checked.prog.wantsStandIn t = false := by
  obtain rfl : f = 7 := Option.some.inj ((show Tryd.prog.funcNamed "sieve/sievelaw.GlobPlain" = some 7 by kernel_rfl).symm.trans hf) |>.symm
  obtain rfl : fn = Tryd.f7 := (Option.some.inj (Tryd.func7.symm.trans hfn)).symm
  refine ⟨by kernel_rfl, fun j t ht => ?_⟩
  rw [Tryd.params7] at ht
  have hm : t = 9 ∨ t = 4 := by simpa using Array.mem_of_getElem? ht
  rcases hm with rfl | rfl
  · exact (show Tryd.prog.wantsStandIn 9 = false by kernel_rfl)
  · exact (show Tryd.prog.wantsStandIn 4 = false by kernel_rfl)

theorem cardUpto : Rows.GlobPlainUptoCardSaid :=
  Claim7.holds_tied_plain_at .later [] _ _ _ _ saidUpto (fun _ h => by cases h) (by kernel_rfl) (fun _ h => by cases h) globPlainUpto_row_tie rfl ⟨rfl, rfl⟩ (by kernel_rfl) rfl plain (by kernel_rfl)
end Go.Proofs.YtfdnhkhcjgenmaaDoor.globPlain
namespace Go.Proofs.YtfdnhkhcjgenmaaDoor
theorem globPlainUpto_holds : Rows.GlobPlainUptoCardSaid := globPlain.cardUpto
#print axioms globPlainUpto_holds
end Go.Proofs.YtfdnhkhcjgenmaaDoor
