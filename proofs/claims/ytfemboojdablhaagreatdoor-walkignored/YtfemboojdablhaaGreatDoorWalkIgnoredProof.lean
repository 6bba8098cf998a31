/- The card of 'sievelaw.WalkIgnored' (the first form). -/
import Derived.Test.YtfemboojdablhaaGreatDoorMi44
import Derived.Test.YtfemboojdablhaaGreatDoorWcA
import Derived.Test.YtfemboojdablhaaGreatDoorWfWalkIgnored
namespace Go.Proofs.YtfemboojdablhaaGreatDoor.walkIgnored
open Go.ChangeShapes Go.WideShapes Go.ChangeAt Go.RowKit
open Go.ChangeMaps (open_string shut_string)
open wc (own sentWorld)
theorem Tryz.star : "*" ++ "errors.errorString" = "*errors.errorString" := by decide
theorem Tryz.row398 (u : TypeId) (h : Tryz.prog.typeName? 3 u = some "*errors.errorString") : u = 398 :=
  typeName_ptr_named (nm := "errors.errorString") (by rw [Tryz.star]; kernel_rfl) (by kernel_rfl) (by decide) u (by rw [Tryz.star]; exact h)
theorem Tryz.cells420 : Tryz.prog.cellsOf 420 = 1 := by kernel_rfl
theorem Tryz.cells9 : Tryz.prog.cellsOf 9 = 1 := by kernel_rfl
def sD (t : List UInt8) : DataW Unit := .iface "*errors.errorString" (.ptr (.agg [.lit (.string t)]))
def errL (x : List UInt8) (y : List UInt8) (n0 n1 : String) : List (String × DataW Unit) := [(n0, sD x), (n1, sD y)]
/-- Two neighbours of the list. -/
theorem two_sent {L : List (String × DataW Unit)} {W : World} (n0 n1 : String) (g0 g1 : Nat) (x y : List UInt8) (h : laidMet Tryz.prog L W) (hf : L.filter (fun z => z.1 == n0 || z.1 == n1) = errL x y n0 n1)
    (hg0 : Tryz.prog.globalNamed n0 = some g0) (hg1 : Tryz.prog.globalNamed n1 = some g1) (ht0 : (Tryz.prog.globals[g0]?).map (·.type) = some 99) (ht1 : (Tryz.prog.globals[g1]?).map (·.type) = some 99) :
    ∃ (a b : Addr) (s t : ByteArray), W.cell? ⟨g0, 0, none⟩ = some (.iface 398 (.pointer (some a))) ∧ W.cell? ⟨g1, 0, none⟩ = some (.iface 398 (.pointer (some b))) ∧ W.cell? a = some (.string s) ∧ s.data.toList = x ∧ W.cell? b = some (.string t) ∧ t.data.toList = y ∧ Tre.Pointee W.heap.size W a ∧ Tre.Pointee W.heap.size W b := by
  have h2 := h.filter (fun z => z.1 == n0 || z.1 == n1)
  rw [hf] at h2
  obtain ⟨a, b, s, t, c0, c1, t0, t1, hv0, hv1, hc0, hs0, _, hc1, hs1, _, _, hb0, hb1⟩ := laid_sentinels2 (P := Tryz.prog) (n0 := n0) (n1 := n1) (text0 := x) (text1 := y) (r := []) h2 hg0 ht0 hg1 ht1 Tryz.underlying99 Tryz.row398 Tryz.underlying398 Tryz.underlying420 rfl rfl Tryz.underlying9 Tryz.cells420 Tryz.cells9
  exact ⟨a, b, s, t, by simpa using World.var?_cell hg0 hv0 0, by simpa using World.var?_cell hg1 hv1 0, hc0, hs0, hc1, hs1, ⟨(Array.getElem?_eq_some_iff.1 hb0).1, _, _, hb0⟩, ⟨(Array.getElem?_eq_some_iff.1 hb1).1, _, _, hb1⟩⟩
theorem apart {W : World} {a b : Addr} {s t : ByteArray} {x y : List UInt8} (ha : W.cell? a = some (.string s)) (hs : s.data.toList = x) (hb : W.cell? b = some (.string t)) (ht : t.data.toList = y) (hxy : x ≠ y) : a ≠ b := by
  rintro rfl
  rw [ha] at hb
  cases hb
  exact hxy (hs.symm.trans ht)
open wc (tText tMany tNone tKind)
theorem sn_of {L : List (String × DataW Unit)} {W : World} (h : laidMet Tryz.prog L W)
    (h1 : L.filter (fun z => z.1 == "sieve/tree.errText" || z.1 == "sieve/tree.errMany") = errL tText tMany "sieve/tree.errText" "sieve/tree.errMany")
    (h2 : L.filter (fun z => z.1 == "sieve/tree.errNone" || z.1 == "sieve/tree.errKind") = errL tNone tKind "sieve/tree.errNone" "sieve/tree.errKind") :
    ∃ a6 a2 a4, Tre.Sn W.heap.size a6 a2 a4 W := by
  obtain ⟨a2, a4, s2, s4, c2, c4, d2, e2, d4, e4, p2, p4⟩ := two_sent "sieve/tree.errText" "sieve/tree.errMany" 4 5 _ _ h h1 (by kernel_rfl) (by kernel_rfl) (by kernel_rfl) (by kernel_rfl)
  obtain ⟨a6, a7, s6, s7, c6, c7, d6, e6, d7, e7, p6, p7⟩ := two_sent "sieve/tree.errNone" "sieve/tree.errKind" 2 3 _ _ h h2 (by kernel_rfl) (by kernel_rfl) (by kernel_rfl) (by kernel_rfl)
  exact ⟨a6, a2, a4, ⟨c6, c2, c4, p6, p2, p4, apart d6 e6 d2 e2 (by decide), apart d6 e6 d4 e4 (by decide)⟩⟩
theorem tab_of {L : List (String × DataW Unit)} {W : World} (h : laidMet Tryz.prog L W)
    (hf : L.filter (fun z => z.1 == "math/bits.deBruijn64tab") = [("math/bits.deBruijn64tab", Lib.tabData .u8 (Lib.deBruijn64tab.map fun (n : Nat) => (n : Int)))]) : TabW W := by
  have h2 := h.filter (fun z => z.1 == "math/bits.deBruijn64tab")
  rw [hf] at h2
  have ht := Lib.tabIs_of_head (P := Tryz.prog) (g := 11) (t := 335) (by kernel_rfl) (by kernel_rfl) (show Tryz.prog.underlying 335 = some (.array 64 5) by kernel_rfl) (show Tryz.prog.underlying 5 = some (.int .u8) by kernel_rfl) (by kernel_rfl) (by kernel_rfl) h2
  intro j hj
  have := ht.cell (show Tryz.prog.globalNamed "math/bits.deBruijn64tab" = some 11 by kernel_rfl) j (by rw [List.length_map]; exact hj)
  rw [this]
  have hj' : j < Lib.deBruijn64tab.length := hj
  simp [List.getD, hj']
theorem maxw {W : World} (h : W.ShapedOpen Tryz.prog) : MaxW W :=
  cell_of_shapedOpen_int (g := 9) (t := 3) (zero := #[.int .i64 0]) h (of_decide_eq_true (by kernel_rfl)) (by kernel_rfl) rfl (by kernel_rfl) (by kernel_rfl) (by kernel_rfl)
theorem big {W : World} (h : W.ShapedOpen Tryz.prog) : 13 < W.heap.size := by
  obtain ⟨o, _, h1, _⟩ := h.2 14 (of_decide_eq_true (by kernel_rfl)) (of_decide_eq_true (by kernel_rfl))
  have := (Array.getElem?_eq_some_iff.1 h1).1
  omega
theorem gws {W : World} (h : laidMetH Tryz.prog Rows.walkIgnoredRow.laid W) (hsh : W.ShapedOpen Tryz.prog) : GW W ∧ ∃ a6 a2 a4, Tre.Sn W.heap.size a6 a2 a4 W := by
  rw [MakeChecks.laidMetH_plain _ _ _ (by kernel_rfl)] at h
  exact ⟨⟨maxw hsh, tab_of h (by kernel_rfl), big hsh⟩, sn_of h (by kernel_rfl) (by kernel_rfl)⟩

set_option maxRecDepth 100000 in
theorem contract (H : Type) (enc : TypeId × Value → H) (W : World) (base : Nat) (args : Array Value) (ds gs : List (DataW H)) (before : List MemPlace)
    (hval : ∀ (j : Nat) t v, Tryz.f6.params[j]? = some t → args[j]? = some v → Value.okWide Tryz.prog W .any base t v)
    (hW : DataW.Whole enc Tryz.prog Tryz.f6.params.toList Rows.walkIgnoredSpec.vars false W args.toList ds gs before)
    (hL : laidMetH Tryz.prog Rows.walkIgnoredRow.laid W) (hsh : W.ShapedOpen Tryz.prog) :
    Calls Tryz.prog 6 args W fun e W' => ∃ v, e = .returned v ∧ Rows.walkIgnoredSpec.post enc Tryz.prog Tryz.f6 false true false false W args v W' := by
  obtain ⟨hG, s6, s2, s4, hS⟩ := gws hL hsh
  have hW' := hW
  obtain ⟨p, q, hA0, hV, rfl, hfz, hnd⟩ := hW
  have hA : DataW.TrodAll enc Tryz.prog W 0 (fun _ => true) true Tryz.f6.params.toList args.toList ds p := hA0
  rw [Tryz.params6] at hA hval
  obtain ⟨v0, vs0, d0, ds0, p0, q0, hargs, rfl, rfl, h0, r0⟩ := trodAll_cons hA
  obtain ⟨rfl, rfl, rfl⟩ := trodAll_nil r0
  obtain rfl : args = #[v0] := by cases args; simp_all
  obtain ⟨rfl, rfl⟩ := trodVars_none hV
  obtain ⟨a0, rfl, rfl, rfl, w0⟩ := open_string Tryz.underlying9 (hval 0 9 v0 rfl rfl) h0
  clear hA0
  simp only [List.append_nil] at hW'
  refine (Tre.ignlaw_any s6 s2 s4 a0 W w0 hG hS).mono fun e W' ⟨he, bel⟩ => ?_
  subst he
  exact ⟨_, rfl, _, _, _, [], _, [], hW', trodAll_mk1 (shut_bool Tryz.underlying4 _), (trodAll_cons_mk (shut_string Tryz.underlying9 w0) trodAll_mk0), rfl, bel.frame _, fun h => by cases h⟩

theorem laid_met (os : Os) : laidMetH Tryz.prog Rows.walkIgnoredRow.laid ((sentWorld os).forCall (fun _ _ => 0) ⟨#[], #[.string ByteArray.empty], []⟩).memory := wc.laid_met os
theorem reads (os : Os) {H : Type} (enc : TypeId × Value → H) : ∃ places, DataW.whole enc Tryz.prog ((sentWorld os).forCall (fun _ _ => 0) ⟨#[], #[.string ByteArray.empty], []⟩).memory Tryz.f6.params.toList Rows.walkIgnoredSpec.vars false (#[.string ByteArray.empty] : Array Value).toList 8 = some ([.lit (.string [])], [], places) :=
  ⟨[], by kernel_rfl⟩

set_option maxRecDepth 100000 in
theorem lifted (os : Os) (started : os.Started) (H : Type) (enc : TypeId × Value → H) (F : Stop.Interp) :
    ReturnsInHanded {} Tryz.checked os 6 .any ((OpenSpec.ofChange Rows.walkIgnoredSpec).preRow enc Tryz.prog Tryz.f6 Rows.walkIgnoredRow.domain false Rows.walkIgnoredRow.laid) (((OpenSpec.ofChange Rows.walkIgnoredSpec).at F).post enc Tryz.prog Tryz.f6 false true false false) := by
  obtain ⟨places, hx⟩ := reads os enc
  refine returnsInHanded_of_row (C := Tryz.checked) (s := OpenSpec.ofChange Rows.walkIgnoredSpec) own started (by kernel_rfl) Tryz.func6
    (witness_row_atRef (enc := enc) (C := Tryz.checked) false (sentWorld os) #[.string ByteArray.empty] rfl (by kernel_rfl) (by kernel_rfl) (by kernel_rfl)
      (OpenSpec.preRow_of_cond 8 hx (by kernel_rfl) (fun k hk => by cases hk) (by kernel_rfl) (laid_met os))) ?_
  intro W base args ds gs before hval hW _ _ _ hL hsh _
  exact contract H enc W base args ds gs before hval hW hL hsh

set_option maxRecDepth 100000 in
theorem said : Rows.WalkIgnoredSaid :=
  OpenClaim.holds_of_cond 6 Tryz.f6 rfl rfl rfl rfl rfl rfl rfl ⟨rfl, rfl, rfl, rfl, rfl⟩ rfl rfl rfl rfl rfl (by kernel_rfl) Tryz.func6 wc.closedWalkIgnored
    (of_decide_eq_true (by kernel_rfl)) (by unfold Func.isWrapper; first | (rw [if_pos (by decide +kernel)]; kernel_rfl) | (rw [if_neg (by decide +kernel)]; exact ⟨rfl, rfl⟩))
    (fun os started H enc _ F => by rw [OpenClaim.pre_eq_preRow]; exact lifted os started H enc F)

theorem plain (f : FuncId) (fn : Func) (hf : Tryz.pinned.checked.prog.funcNamed "sieve/sievelaw.WalkIgnored" = some f) (hfn : Tryz.pinned.checked.prog.funcs[f]? = some fn) :
    true = Tryz.pinned.checked.prog.looks [] ∧ ∀ (j : Nat) t, fn.params[j]? = some t → Tryz.pinned.checked.prog.wantsStandIn t = false := by
  obtain rfl : f = 6 := Option.some.inj ((show Tryz.prog.funcNamed "sieve/sievelaw.WalkIgnored" = some 6 by kernel_rfl).symm.trans hf) |>.symm
  obtain rfl : fn = Tryz.f6 := (Option.some.inj (Tryz.func6.symm.trans hfn)).symm
  refine ⟨by kernel_rfl, fun j t ht => ?_⟩
  rw [Tryz.params6] at ht
  obtain rfl : t = 9 := by simpa using Array.mem_of_getElem? ht
  exact (show Tryz.prog.wantsStandIn 9 = false by kernel_rfl)

theorem card : Rows.WalkIgnoredCardSaid :=
  Claim7.holds_tied_plain_at .later [] _ _ _ _ said (fun _ h => by cases h) (by kernel_rfl) (fun _ h => by cases h) walkIgnored_row_tie rfl ⟨rfl, rfl⟩ (by kernel_rfl) rfl plain (by kernel_rfl)
end Go.Proofs.YtfemboojdablhaaGreatDoor.walkIgnored
namespace Go.Proofs.YtfemboojdablhaaGreatDoor
theorem walkIgnored_holds : Rows.WalkIgnoredCardSaid := walkIgnored.card
#print axioms walkIgnored_holds
end Go.Proofs.YtfemboojdablhaaGreatDoor
