/- The card of 'sievelaw.IgnoreBelow' (the first form). -/
import Derived.Test.YtjbdoeoimodhkaaGreatDoorJf
import Derived.Test.YtjbdoeoimodhkaaGreatDoorCards
import Derived.Test.YtjbdoeoimodhkaaGreatDoorTie
import Derived.Stop.LaidTwo
import Derived.LaidSub
import Derived.Shelf.Vars
import Derived.WalkKit
import Derived.ProofKit
import Derived.OpenShut
import Derived.ShutString
import Derived.ChangeOld
import Derived.Below
import Derived.Carry
import Derived.Deep.DeepHandedRow
import Derived.Deep.DeepWitnessRowRef
import Derived.Lib.LaidTab
import Derived.SizedLaws
namespace Go.Proofs.YtjbdoeoimodhkaaGreatDoor.ignoreBelow
open Go.ChangeShapes Go.WideShapes Go.ChangeAt Go.RowKit
open Go.ChangeMaps (open_string shut_string)

theorem own : ownKnob Tryz.prog.godebug = none := by kernel_rfl
theorem Tryz.star : "*" ++ "errors.errorString" = "*errors.errorString" := by decide
theorem Tryz.row239 (u : TypeId) (h : Tryz.prog.typeName? 3 u = some "*errors.errorString") : u = 239 :=
  typeName_ptr_named (nm := "errors.errorString") (by rw [Tryz.star]; kernel_rfl) (by kernel_rfl) (by decide) u (by rw [Tryz.star]; exact h)
theorem Tryz.cells262 : Tryz.prog.cellsOf 262 = 1 := by kernel_rfl
theorem Tryz.cells9 : Tryz.prog.cellsOf 9 = 1 := by kernel_rfl
def sD (t : List UInt8) : DataW Unit := .iface "*errors.errorString" (.ptr (.agg [.lit (.string t)]))
def errL (x : List UInt8) (y : List UInt8) (n0 n1 : String) : List (String × DataW Unit) := [(n0, sD x), (n1, sD y)]
/-- Two neighbours of the list. -/
theorem two_sent {L : List (String × DataW Unit)} {W : World} (n0 n1 : String) (g0 g1 : Nat) (x y : List UInt8) (h : laidMet Tryz.prog L W) (hf : L.filter (fun z => z.1 == n0 || z.1 == n1) = errL x y n0 n1)
    (hg0 : Tryz.prog.globalNamed n0 = some g0) (hg1 : Tryz.prog.globalNamed n1 = some g1) (ht0 : (Tryz.prog.globals[g0]?).map (·.type) = some 83) (ht1 : (Tryz.prog.globals[g1]?).map (·.type) = some 83) :
    ∃ (a b : Addr) (s t : ByteArray), W.cell? ⟨g0, 0, none⟩ = some (.iface 239 (.pointer (some a))) ∧ W.cell? ⟨g1, 0, none⟩ = some (.iface 239 (.pointer (some b))) ∧ W.cell? a = some (.string s) ∧ s.data.toList = x ∧ W.cell? b = some (.string t) ∧ t.data.toList = y ∧ Tre.Pointee W.heap.size W a ∧ Tre.Pointee W.heap.size W b := by
  have h2 := h.filter (fun z => z.1 == n0 || z.1 == n1)
  rw [hf] at h2
  obtain ⟨a, b, s, t, c0, c1, t0, t1, hv0, hv1, hc0, hs0, _, hc1, hs1, _, _, hb0, hb1⟩ := laid_sentinels2 (P := Tryz.prog) (n0 := n0) (n1 := n1) (text0 := x) (text1 := y) (r := []) h2 hg0 ht0 hg1 ht1 Tryz.underlying83 Tryz.row239 Tryz.underlying239 Tryz.underlying262 rfl rfl Tryz.underlying9 Tryz.cells262 Tryz.cells9
  exact ⟨a, b, s, t, by simpa using World.var?_cell hg0 hv0 0, by simpa using World.var?_cell hg1 hv1 0, hc0, hs0, hc1, hs1, ⟨(Array.getElem?_eq_some_iff.1 hb0).1, _, _, hb0⟩, ⟨(Array.getElem?_eq_some_iff.1 hb1).1, _, _, hb1⟩⟩
theorem apart {W : World} {a b : Addr} {s t : ByteArray} {x y : List UInt8} (ha : W.cell? a = some (.string s)) (hs : s.data.toList = x) (hb : W.cell? b = some (.string t)) (ht : t.data.toList = y) (hxy : x ≠ y) : a ≠ b := by
  rintro rfl
  rw [ha] at hb
  cases hb
  exact hxy (hs.symm.trans ht)
def tText : List UInt8 := [97, 32, 108, 105, 110, 101, 32, 116, 104, 97, 116, 32, 104, 97, 115, 32, 110, 111, 116, 32, 116, 104, 101, 32, 102, 111, 114, 109]
def tMany : List UInt8 := [97, 32, 108, 105, 110, 101, 32, 109, 111, 114, 101, 32, 116, 104, 97, 110, 32, 116, 104, 101, 114, 101, 32, 109, 97, 121, 32, 98, 101]
def tNone : List UInt8 := [97, 32, 110, 111, 100, 101, 32, 116, 104, 97, 116, 32, 105, 115, 32, 110, 111, 116, 32, 116, 104, 101, 114, 101]
def tKind : List UInt8 := [97, 32, 110, 111, 100, 101, 32, 116, 104, 97, 116, 32, 105, 115, 32, 110, 111, 32, 100, 105, 114, 101, 99, 116, 111, 114, 121]
def tTwice : List UInt8 := [97, 32, 110, 111, 100, 101, 32, 116, 104, 97, 116, 32, 105, 115, 32, 116, 104, 101, 114, 101, 32, 97, 108, 114, 101, 97, 100, 121]
def tLoop : List UInt8 := [97, 32, 108, 105, 110, 107, 32, 109, 111, 114, 101, 32, 116, 104, 97, 110, 32, 97, 114, 101, 32, 103, 111, 110, 101, 32, 116, 104, 114, 111, 117, 103, 104]
theorem sn_of {L : List (String × DataW Unit)} {W : World} (h : laidMet Tryz.prog L W)
    (h1 : L.filter (fun z => z.1 == "sieve/tree.errText" || z.1 == "sieve/tree.errMany") = errL tText tMany "sieve/tree.errText" "sieve/tree.errMany")
    (h2 : L.filter (fun z => z.1 == "sieve/tree.errNone" || z.1 == "sieve/tree.errKind") = errL tNone tKind "sieve/tree.errNone" "sieve/tree.errKind") :
    ∃ a6 a2 a4, Tre.Sn W.heap.size a6 a2 a4 W := by
  obtain ⟨a2, a4, s2, s4, c2, c4, d2, e2, d4, e4, p2, p4⟩ := two_sent "sieve/tree.errText" "sieve/tree.errMany" 2 3 _ _ h h1 (by kernel_rfl) (by kernel_rfl) (by kernel_rfl) (by kernel_rfl)
  obtain ⟨a6, a7, s6, s7, c6, c7, d6, e6, d7, e7, p6, p7⟩ := two_sent "sieve/tree.errNone" "sieve/tree.errKind" 0 1 _ _ h h2 (by kernel_rfl) (by kernel_rfl) (by kernel_rfl) (by kernel_rfl)
  exact ⟨a6, a2, a4, ⟨c6, c2, c4, p6, p2, p4, apart d6 e6 d2 e2 (by decide), apart d6 e6 d4 e4 (by decide)⟩⟩
theorem tab_of {L : List (String × DataW Unit)} {W : World} (h : laidMet Tryz.prog L W)
    (hf : L.filter (fun z => z.1 == "math/bits.deBruijn64tab") = [("math/bits.deBruijn64tab", Lib.tabData .u8 (Lib.deBruijn64tab.map fun (n : Nat) => (n : Int)))]) : TabW W := by
  have h2 := h.filter (fun z => z.1 == "math/bits.deBruijn64tab")
  rw [hf] at h2
  have ht := Lib.tabIs_of_head (P := Tryz.prog) (g := 9) (t := 230) (by kernel_rfl) (by kernel_rfl) (show Tryz.prog.underlying 230 = some (.array 64 5) by kernel_rfl) (show Tryz.prog.underlying 5 = some (.int .u8) by kernel_rfl) (by kernel_rfl) (by kernel_rfl) h2
  intro j hj
  have := ht.cell (show Tryz.prog.globalNamed "math/bits.deBruijn64tab" = some 9 by kernel_rfl) j (by rw [List.length_map]; exact hj)
  rw [this]
  have hj' : j < Lib.deBruijn64tab.length := hj
  simp [List.getD, hj']
theorem cell_lt {W : World} {p : Addr} {v : Value} (h : W.cell? p = some v) : p.block < W.heap.size := by
  by_cases hlt : p.block < W.heap.size
  · exact hlt
  · unfold World.cell? at h
    rw [Array.getElem?_eq_none (by omega)] at h
    cases h
theorem maxw {W : World} (h : W.ShapedOpen Tryz.prog) : MaxW W :=
  cell_of_shapedOpen_int (g := 6) (t := 3) (zero := #[.int .i64 0]) h (of_decide_eq_true (by kernel_rfl)) (by kernel_rfl) rfl (by kernel_rfl) (by kernel_rfl) (by kernel_rfl)
theorem gws {W : World} (h : laidMetH Tryz.prog Rows.ignoreBelowRow.laid W) (hsh : W.ShapedOpen Tryz.prog) : GW W ∧ ∃ a6 a2 a4, Tre.Sn W.heap.size a6 a2 a4 W := by
  rw [MakeChecks.laidMetH_plain _ _ _ (by kernel_rfl)] at h
  have ht := tab_of h (by kernel_rfl)
  exact ⟨⟨maxw hsh, ht, cell_lt (ht 0 (by decide))⟩, sn_of h (by kernel_rfl) (by kernel_rfl)⟩
/-- The cells of a table. -/
def flat1 : DataW Unit → List Value
  | .lit (.int k n) => [.int k n]
  | _ => []
def flat2 : DataW Unit → List Value
  | .agg ds => ds.flatMap flat1
  | d => flat1 d
def flat3 : DataW Unit → List Value
  | .agg ds => ds.flatMap flat2
  | d => flat1 d
def fill (cs : Array Value) : Obj → Obj
  | .cells _ t frozen => .cells cs t frozen
  | o => o
noncomputable def laidWorld (os : Os) : World :=
  { World.holding Tryz.prog os ⟨#[], #[], []⟩ with heap := (((World.holding Tryz.prog os ⟨#[], #[], []⟩).heap.modify 9 (fill (flat3 Rows.laid_math_bits_deBruijn64tab).toArray)).modify 7 (fill (flat3 Rows.laid_unicode_utf8_first).toArray)).modify 8 (fill (flat3 Rows.laid_unicode_utf8_acceptRanges).toArray) }
def laySent (h : Array Obj) (g : Nat) (t : List UInt8) : Array Obj := (h.modify g (fill #[.iface 239 (.pointer (some ⟨h.size, 0, none⟩))])).push (.cells #[.string ⟨t.toArray⟩] 262 (0, 0))
noncomputable def sentWorld (os : Os) : World :=
  { laidWorld os with heap := laySent (laySent (laySent (laySent (laySent (laySent (laidWorld os).heap 0 tNone) 1 tKind) 2 tText) 3 tMany) 4 tTwice) 5 tLoop }

set_option maxRecDepth 100000 in
theorem contract (H : Type) (enc : TypeId × Value → H) (W : World) (base : Nat) (args : Array Value) (ds gs : List (DataW H)) (before : List MemPlace)
    (hval : ∀ (j : Nat) t v, Tryz.f3.params[j]? = some t → args[j]? = some v → Value.okWide Tryz.prog W .any base t v)
    (hW : DataW.Whole enc Tryz.prog Tryz.f3.params.toList Rows.ignoreBelowSpec.vars false W args.toList ds gs before)
    (hL : laidMetH Tryz.prog Rows.ignoreBelowRow.laid W) (hsh : W.ShapedOpen Tryz.prog) :
    Calls Tryz.prog 3 args W fun e W' => ∃ v, e = .returned v ∧ Rows.ignoreBelowSpec.post enc Tryz.prog Tryz.f3 false true false false W args v W' := by
  obtain ⟨hG, s6, s2, s4, hS⟩ := gws hL hsh
  have hW' := hW
  obtain ⟨p, q, hA0, hV, rfl, hfz, hnd⟩ := hW
  have hA : DataW.TrodAll enc Tryz.prog W 0 (fun _ => true) true Tryz.f3.params.toList args.toList ds p := hA0
  rw [Tryz.params3] at hA hval
  obtain ⟨v0, vs0, d0, ds0, p0, q0, hargs, rfl, rfl, h0, r0⟩ := trodAll_cons hA
  obtain ⟨rfl, rfl, rfl⟩ := trodAll_nil r0
  obtain rfl : args = #[v0] := by cases args; simp_all
  obtain ⟨rfl, rfl⟩ := trodVars_none hV
  obtain ⟨a0, rfl, rfl, rfl, w0⟩ := open_string Tryz.underlying9 (hval 0 9 v0 rfl rfl) h0
  clear hA0
  simp only [List.append_nil] at hW'
  refine (below_any s6 s2 s4 a0 W w0 hG hS).mono fun e W' ⟨he, bel⟩ => ?_
  subst he
  exact ⟨_, rfl, _, _, _, [], _, [], hW', trodAll_mk1 (shut_bool Tryz.underlying4 _), (trodAll_cons_mk (shut_string Tryz.underlying9 w0) trodAll_mk0), rfl, bel.frame _, fun h => by cases h⟩

theorem laid_met (os : Os) : laidMetH Tryz.prog Rows.ignoreBelowRow.laid ((sentWorld os).forCall (fun _ _ => 0) ⟨#[], #[.string ByteArray.empty], []⟩).memory := by
  rw [MakeChecks.laidMetH_plain _ _ _ (by kernel_rfl)]
  exact laidMet_of_run' 8 (by kernel_rfl) (by kernel_rfl)
theorem reads (os : Os) {H : Type} (enc : TypeId × Value → H) : ∃ places, DataW.whole enc Tryz.prog ((sentWorld os).forCall (fun _ _ => 0) ⟨#[], #[.string ByteArray.empty], []⟩).memory Tryz.f3.params.toList Rows.ignoreBelowSpec.vars false #[Value.string ByteArray.empty].toList 8 = some ([.lit (.string [])], [], places) :=
  ⟨[], by kernel_rfl⟩

set_option maxRecDepth 100000 in
theorem lifted (os : Os) (started : os.Started) (H : Type) (enc : TypeId × Value → H) (F : Stop.Interp) :
    ReturnsInHanded {} Tryz.checked os 3 .any ((OpenSpec.ofChange Rows.ignoreBelowSpec).preRow enc Tryz.prog Tryz.f3 Rows.ignoreBelowRow.domain false Rows.ignoreBelowRow.laid) (((OpenSpec.ofChange Rows.ignoreBelowSpec).at F).post enc Tryz.prog Tryz.f3 false true false false) := by
  obtain ⟨places, hx⟩ := reads os enc
  refine returnsInHanded_of_row (C := Tryz.checked) (s := OpenSpec.ofChange Rows.ignoreBelowSpec) own started (by kernel_rfl) Tryz.func3
    (witness_row_atRef (enc := enc) (C := Tryz.checked) false (sentWorld os) #[.string ByteArray.empty] rfl (by kernel_rfl) (by kernel_rfl) (by kernel_rfl)
      (OpenSpec.preRow_of_cond 8 hx (by kernel_rfl) (fun k hk => by cases hk) (by kernel_rfl) (laid_met os))) ?_
  intro W base args ds gs before hval hW _ _ _ hL hsh _
  exact contract H enc W base args ds gs before hval hW hL hsh

theorem said : Rows.IgnoreBelowSaid :=
  OpenClaim.holds_of_cond 3 Tryz.f3 rfl rfl rfl rfl rfl rfl rfl ⟨rfl, rfl, rfl, rfl, rfl⟩ rfl rfl rfl rfl rfl (by kernel_rfl) Tryz.func3 (by kernel_rfl)
    (of_decide_eq_true (by kernel_rfl)) (by unfold Func.isWrapper; first | (rw [if_pos (by decide +kernel)]; kernel_rfl) | (rw [if_neg (by decide +kernel)]; exact ⟨rfl, rfl⟩))
    (fun os started H enc _ F => by rw [OpenClaim.pre_eq_preRow]; exact lifted os started H enc F)

theorem plain (f : FuncId) (fn : Func) (hf : Tryz.pinned.checked.prog.funcNamed "sieve/sievelaw.IgnoreBelow" = some f) (hfn : Tryz.pinned.checked.prog.funcs[f]? = some fn) :
    true = Tryz.pinned.checked.prog.looks [] ∧ ∀ (j : Nat) t, fn.params[j]? = some t → Tryz.pinned.checked.prog.wantsStandIn t = false := by
  obtain rfl : f = 3 := Option.some.inj ((show Tryz.prog.funcNamed "sieve/sievelaw.IgnoreBelow" = some 3 by kernel_rfl).symm.trans hf) |>.symm
  obtain rfl : fn = Tryz.f3 := (Option.some.inj (Tryz.func3.symm.trans hfn)).symm
  refine ⟨by kernel_rfl, fun j t ht => ?_⟩
  rw [Tryz.params3] at ht
  obtain rfl : t = 9 := by simpa using Array.mem_of_getElem? ht
  exact (show Tryz.prog.wantsStandIn 9 = false by kernel_rfl)

theorem card : Rows.IgnoreBelowCardSaid :=
  Claim7.holds_tied_plain_at .later [] _ _ _ _ said (fun _ h => by cases h) (by kernel_rfl) (fun _ h => by cases h) ignoreBelow_row_tie rfl ⟨rfl, rfl⟩ (by kernel_rfl) rfl plain (by kernel_rfl)
end Go.Proofs.YtjbdoeoimodhkaaGreatDoor.ignoreBelow
namespace Go.Proofs.YtjbdoeoimodhkaaGreatDoor
theorem ignoreBelow_holds : Rows.IgnoreBelowCardSaid := ignoreBelow.card
#print axioms ignoreBelow_holds
end Go.Proofs.YtjbdoeoimodhkaaGreatDoor
