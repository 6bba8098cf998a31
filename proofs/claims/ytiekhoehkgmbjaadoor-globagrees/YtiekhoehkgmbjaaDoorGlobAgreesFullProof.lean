import Derived.Test.YtiekhoehkgmbjaaDoorGrD
import Derived.Test.YtiekhoehkgmbjaaDoorCards
import Derived.Test.YtiekhoehkgmbjaaDoorTie
import Derived.Shelf.Vars
import Derived.WalkKit
import Derived.ProofKit
import Derived.OpenShut
import Derived.ShutString
import Derived.ChangeOld
import Derived.Below
import Derived.Carry
import Derived.Deep.DeepHandedRow
import Derived.Lib.LaidTab
import Derived.SizedLaws
/- The law GlobAgrees. -/
namespace Go.Proofs.YtiekhoehkgmbjaaDoor
open Go.RowKit Go.Maps
set_option maxRecDepth 100000 in
theorem num_any (n : Int) (w : World) : Calls Tryd.prog 14 #[.int .i64 n] w fun e w' => e = .returned (.int .i64 n) ∧ w' = w := by
  go_enter Tryd.func14, Tryd.ntmps14
  go_wp2
  go_ret
  exact ⟨rfl, rfl⟩
set_option maxRecDepth 100000 in
set_option maxHeartbeats 8000000 in
theorem agrees_any (p s : ByteArray) (way : Bool) (w : World) (hG : GW w) (hs : s.size ≤ 1000000000000000) :
    Calls Tryd.prog 6 #[.string p, .string s, .bool way] w fun e w' => e = .returned (.bool true) ∧ Below w.heap.size w w' := by
  have HG := hide hG
  have hpa := parse_any p way w hG.mx hG.big
  clear hG
  go_enter Tryd.func6, Tryd.ntmps6
  go_wp2_with fail
  refine hpa.mono ?_
  rintro e w2 ⟨op, v, ks, pl, rfl, hkin, hwt, hmean, b2⟩
  clear hpa
  obtain ⟨va, vn, vc, rfl⟩ : ∃ a n c, v = .slice a n c := by
    obtain ⟨ka, kc, e⟩ := kin_shape hkin
    exact ⟨_, _, _, e⟩
  obtain ⟨W3, hW3⟩ : ∃ W3, w2.alloc (.cells #[.int .i64 op, .string ⟨#[]⟩, .slice va vn vc] 28) = W3 := ⟨_, rfl⟩
  have b23 : Below w2.heap.size w2 W3 := by rw [← hW3]; exact (Below.refl _ _).alloc (Nat.le_refl _) _
  have z3 : W3.heap.size = w2.heap.size + 1 := by rw [← hW3, World.size_alloc]
  have x3 : Box28 W3 w2.heap.size op ⟨#[]⟩ (.slice va vn vc) := by rw [← hW3]; exact World.alloc_heap_new w2 _
  have b03 : Below w.heap.size w W3 := b2.trans (b23.mono b2.size)
  have hgm := gmatch_any p s way W3 (HG.out.below b03) hs
  obtain ⟨E, hE⟩ : ∃ E, wrongD p = E := ⟨_, rfl⟩
  rw [hE] at hgm hmean
  have HK := hide hkin
  have HM := hide hmean
  have HB2 := hide b2
  have HB23 := hide b23
  have HX3 := hide x3
  have HB03 := hide b03
  have HZ3 := hide z3
  simp only [hE]
  clear hkin hmean b2 b23 x3 b03 z3
  go_wp2_with fail
  refine hgm.mono ?_
  rintro e w4 ⟨r, rfl, hr, b4⟩
  clear hgm
  have HR := hide hr
  have HB4 := hide b4
  have hpc := pieces_any p way w4
  rw [hE] at hpc
  clear hr b4
  go_wp2_with fail
  refine hpc.mono ?_
  rintro e w5 ⟨⟨pa, pn, pc, pl2, rfl⟩, b5⟩
  clear hpc
  have b35 : Below W3.heap.size W3 w5 := HB4.out.trans (b5.mono HB4.out.size)
  have b05 : Below w.heap.size w w5 := HB03.out.trans (b35.mono HB03.out.size)
  have x5 : Box28 w5 w2.heap.size op ⟨#[]⟩ (.slice va vn vc) := HX3.out.below b35 (by rw [HZ3.out]; omega)
  have hk5 : KidsAt w5.heap.size w5 (.slice va vn vc) ks := (HK.out.keep (S' := fun k => k < w5.heap.size) (fun k hk => by have := hk.2; have := b35.size; rw [HZ3.out] at this; omega) (fun k hk => (b35.block k (by have := hk.2; rw [HZ3.out]; omega)).trans (HB23.out.block k hk.2))).at_ (fun k hk => hk)
  have g5 := HG.out.below b05
  have hma := match_big op ⟨#[]⟩ (.slice va vn vc) ks s w5 hk5 (by decide) hwt hs g5.tab (by have := g5.big; omega)
  obtain ⟨c0, c1, c2⟩ := x5.cells
  have HB05 := hide b05
  have HMA := hide hma
  have HNUM := hide (num_any (E : Int) w5)
  clear b35 b05 x5 hk5 g5 hma b5
  go_wp2_with first
    | (go_at_call 14; refine HNUM.out.mono ?_; rintro e w6 ⟨rfl, hw⟩; rw [hw]; clear hw)
    | (go_at_call 9; refine HMA.out.mono ?_; rintro e w7 ⟨r2, rfl, hr2, b7⟩)
  · have hE0 : E = 0 := by omega
    obtain ⟨ps, hp, hme⟩ := HM.out hE0
    have hr := HR.out ps hE0 hp
    have hr2' : r2 = true ↔ InE (meanD way ps) s.data.toList := by rw [← hme]; exact hr2
    have hrr : r2 = r := by
      cases r2 <;> cases r <;> simp_all
    have hb : Below w.heap.size w w7 := HB05.out.trans (b7.mono HB05.out.size)
    exact bodyPost_ret (v := .bool true) (by simp [results, Tryd.results6, go_sem, hrr]) rfl ⟨rfl, hb⟩
  · have hb : Below w.heap.size w w7 := HB05.out.trans (b7.mono HB05.out.size)
    exact bodyPost_ret (v := .bool true) (by simp [results, Tryd.results6, go_sem]) rfl ⟨rfl, hb⟩
end Go.Proofs.YtiekhoehkgmbjaaDoor
/- The card of 'sievelaw.GlobAgrees' (the first form). -/
namespace Go.Proofs.YtiekhoehkgmbjaaDoor.globAgrees
open Go.ChangeShapes Go.WideShapes Go.ChangeAt Go.RowKit
open Go.ChangeMaps (open_string shut_string)

theorem cell_lt {W : World} {p : Addr} {v : Value} (h : W.cell? p = some v) : p.block < W.heap.size := by
  by_cases hlt : p.block < W.heap.size
  · exact hlt
  · unfold World.cell? at h
    rw [Array.getElem?_eq_none (by omega)] at h
    cases h
theorem own : ownKnob Tryd.prog.godebug = none := by kernel_rfl
theorem tab_head {L rest : List (String × DataW Unit)} {W : World} (h : laidMet Tryd.prog L W) (hL : L = ("math/bits.deBruijn64tab", Lib.tabData .u8 (Lib.deBruijn64tab.map fun (n : Nat) => (n : Int))) :: rest) : TabW W := by
  subst hL
  have ht := Lib.tabIs_of_head (P := Tryd.prog) (g := 0) (t := 148) (by kernel_rfl) (by kernel_rfl) (show Tryd.prog.underlying 148 = some (.array 64 5) by kernel_rfl) (show Tryd.prog.underlying 5 = some (.int .u8) by kernel_rfl) (by kernel_rfl) (by kernel_rfl) h
  intro j hj
  have := ht.cell (show Tryd.prog.globalNamed "math/bits.deBruijn64tab" = some 0 by kernel_rfl) j (by rw [List.length_map]; exact hj)
  rw [this]
  have hj' : j < Lib.deBruijn64tab.length := hj
  simp [List.getD, hj']
theorem tab {W : World} (h : laidMetH Tryd.prog Rows.globAgreesRow.laid W) : TabW W := by
  rw [MakeChecks.laidMetH_plain _ _ _ (by kernel_rfl)] at h
  exact tab_head (rest := [("unicode/utf8.acceptRanges", Rows.laid_unicode_utf8_acceptRanges), ("unicode/utf8.first", Rows.laid_unicode_utf8_first)]) h (by kernel_rfl)
theorem maxw {W : World} (h : W.ShapedOpen Tryd.prog) : MaxW W :=
  cell_of_shapedOpen_int (g := 1) (t := 3) (zero := #[.int .i64 0]) h (of_decide_eq_true (by kernel_rfl)) (by kernel_rfl) rfl (by kernel_rfl) (by kernel_rfl) (by kernel_rfl)
/-- The cells of a table. -/
def flat1 : DataW Unit → List Value
  | .lit (.int k n) => [.int k n]
  | _ => []
def flat2 : DataW Unit → List Value
  | .agg ds => ds.flatMap flat1
  | d => flat1 d
def flat3 : DataW Unit → List Value
  | .agg ds => ds.flatMap flat2
  | d => flat1 d
def fill (cs : Array Value) : Obj → Obj
  | .cells _ t frozen => .cells cs t frozen
  | o => o
noncomputable def laidWorld3 (os : Os) : World :=
  { World.holding Tryd.prog os ⟨#[], #[], []⟩ with heap := (((World.holding Tryd.prog os ⟨#[], #[], []⟩).heap.modify 0 (fill (flat3 Rows.laid_math_bits_deBruijn64tab).toArray)).modify 2 (fill (flat3 Rows.laid_unicode_utf8_first).toArray)).modify 3 (fill (flat3 Rows.laid_unicode_utf8_acceptRanges).toArray) }

set_option maxRecDepth 100000 in
theorem contract (H : Type) (enc : TypeId × Value → H) (W : World) (base : Nat) (args : Array Value) (ds gs : List (DataW H)) (before : List MemPlace)
    (hval : ∀ (j : Nat) t v, Tryd.f6.params[j]? = some t → args[j]? = some v → Value.okWide Tryd.prog W .any base t v)
    (hW : DataW.Whole enc Tryd.prog Tryd.f6.params.toList Rows.globAgreesSpec.vars false W args.toList ds gs before)
    (hsz : (DataW.weightsEach Tryd.prog (Tryd.f6.params.toList ++ (OpenSpec.ofChange Rows.globAgreesSpec).bare.plain.varTypes Tryd.prog) (ds ++ gs)).all (· ≤ reachBytes) = true)
    (hL : laidMetH Tryd.prog Rows.globAgreesRow.laid W) (hsh : W.ShapedOpen Tryd.prog) :
    Calls Tryd.prog 6 args W fun e W' => ∃ v, e = .returned v ∧ Rows.globAgreesSpec.post enc Tryd.prog Tryd.f6 false true false false W args v W' := by
  have hG : GW W := ⟨maxw hsh, tab hL, by obtain ⟨m, hm⟩ := maxw hsh; exact cell_lt hm⟩
  have hW' := hW
  obtain ⟨p, q, hA0, hV, rfl, hfz, hnd⟩ := hW
  have hA : DataW.TrodAll enc Tryd.prog W 0 (fun _ => true) true Tryd.f6.params.toList args.toList ds p := hA0
  rw [Tryd.params6] at hA hval hsz
  obtain ⟨v0, vs0, d0, ds0, p0, q0, hargs, rfl, rfl, h0, r0⟩ := trodAll_cons hA
  obtain ⟨v1, vs1, d1, ds1, p1, q1, rfl, rfl, rfl, h1, r1⟩ := trodAll_cons r0
  obtain ⟨v2, vs2, d2, ds2, p2, q2, rfl, rfl, rfl, h2, r2⟩ := trodAll_cons r1
  obtain ⟨rfl, rfl, rfl⟩ := trodAll_nil r2
  obtain rfl : args = #[v0, v1, v2] := by cases args; simp_all
  obtain ⟨rfl, rfl⟩ := trodVars_none hV
  obtain ⟨a0, rfl, rfl, rfl, w0⟩ := open_string Tryd.underlying9 (hval 0 9 v0 rfl rfl) h0
  obtain ⟨a1, rfl, rfl, rfl, w1⟩ := open_string Tryd.underlying9 (hval 1 9 v1 rfl rfl) h1
  obtain ⟨b2, rfl, rfl, rfl⟩ := open_bool Tryd.underlying4 (hval 2 4 v2 rfl rfl) h2
  clear hA0
  simp only [List.append_nil] at hW'
  have x0 := sized_string hsz (j := 0) (t := 9) rfl rfl
  have x1 := sized_string hsz (j := 1) (t := 9) rfl rfl
  unfold reachBytes at x0 x1
  have z1 : a1.data.toList.length = a1.size := by rw [Array.length_toList]; rfl
  refine (agrees_any a0 a1 b2 W hG (by omega)).mono fun e W' ⟨he, bel⟩ => ?_
  subst he
  exact ⟨_, rfl, _, _, _, [], _, [], hW', trodAll_mk1 (shut_bool Tryd.underlying4 _), (trodAll_cons_mk (shut_string Tryd.underlying9 w0) (trodAll_cons_mk (shut_string Tryd.underlying9 w1) (trodAll_cons_mk (shut_bool Tryd.underlying4 _) trodAll_mk0))), rfl, bel.frame _, fun h => by cases h⟩

theorem laid_met (os : Os) : laidMetH Tryd.prog Rows.globAgreesRow.laid ((laidWorld3 os).forCall (fun _ _ => 0) ⟨#[], #[.string ByteArray.empty, .string ByteArray.empty, .bool false], []⟩).memory := by
  rw [MakeChecks.laidMetH_plain _ _ _ (by kernel_rfl)]
  exact laidMet_of_run' 8 (by kernel_rfl) (by kernel_rfl)
theorem reads (os : Os) {H : Type} (enc : TypeId × Value → H) : ∃ places, DataW.whole enc Tryd.prog ((laidWorld3 os).forCall (fun _ _ => 0) ⟨#[], #[.string ByteArray.empty, .string ByteArray.empty, .bool false], []⟩).memory Tryd.f6.params.toList Rows.globAgreesSpec.vars false #[Value.string ByteArray.empty, Value.string ByteArray.empty, Value.bool false].toList 8 = some ([.lit (.string []), .lit (.string []), .lit (.bool false)], [], places) :=
  ⟨[], by kernel_rfl⟩

set_option maxRecDepth 100000 in
theorem lifted (os : Os) (started : os.Started) (H : Type) (enc : TypeId × Value → H) (F : Stop.Interp) :
    ReturnsInHanded {} Tryd.checked os 6 .any ((OpenSpec.ofChange Rows.globAgreesSpec).preRow enc Tryd.prog Tryd.f6 Rows.globAgreesRow.domain false Rows.globAgreesRow.laid) (((OpenSpec.ofChange Rows.globAgreesSpec).at F).post enc Tryd.prog Tryd.f6 false true false false) := by
  obtain ⟨places, hx⟩ := reads os enc
  refine returnsInHanded_of_row (C := Tryd.checked) (s := OpenSpec.ofChange Rows.globAgreesSpec) own started (by kernel_rfl) Tryd.func6
    (witness_row_at (enc := enc) (C := Tryd.checked) false (laidWorld3 os) #[.string ByteArray.empty, .string ByteArray.empty, .bool false] rfl (by kernel_rfl) (by kernel_rfl) (by kernel_rfl)
      (OpenSpec.preRow_of_cond 8 hx (by kernel_rfl) (fun k hk => by cases hk) (by kernel_rfl) (laid_met os))) ?_
  intro W base args ds gs before hval hW _ _ hsz hL hsh _
  exact contract H enc W base args ds gs before hval hW hsz hL hsh

theorem said : Rows.GlobAgreesSaid :=
  OpenClaim.holds_of_cond 6 Tryd.f6 rfl rfl rfl rfl rfl rfl rfl ⟨rfl, rfl, rfl, rfl, rfl⟩ rfl rfl rfl rfl rfl (by kernel_rfl) Tryd.func6 (by kernel_rfl)
    (of_decide_eq_true (by kernel_rfl)) (by unfold Func.isWrapper; first | (rw [if_pos (by decide +kernel)]; kernel_rfl) | (rw [if_neg (by decide +kernel)]; exact ⟨rfl, rfl⟩))
    (fun os started H enc _ F => by rw [OpenClaim.pre_eq_preRow]; exact lifted os started H enc F)

theorem plain (f : FuncId) (fn : Func) (hf : Tryd.pinned.checked.prog.funcNamed "sieve/sievelaw.GlobAgrees" = some f) (hfn : Tryd.pinned.checked.prog.funcs[f]? = some fn) :
    false = Tryd.pinned.checked.prog.looks [] ∧ ∀ (j : Nat) t, fn.params[j]? = some t → Tryd.pinned.checked.prog.wantsStandIn t = false := by
  obtain rfl : f = 6 := Option.some.inj ((show Tryd.prog.funcNamed "sieve/sievelaw.GlobAgrees" = some 6 by kernel_rfl).symm.trans hf) |>.symm
  obtain rfl : fn = Tryd.f6 := (Option.some.inj (Tryd.func6.symm.trans hfn)).symm
  refine ⟨by kernel_rfl, fun j t ht => ?_⟩
  rw [Tryd.params6] at ht
  have hm : t = 9 ∨ t = 4 := by simpa using Array.mem_of_getElem? ht
  rcases hm with rfl | rfl
  · exact (show Tryd.prog.wantsStandIn 9 = false by kernel_rfl)
  · exact (show Tryd.prog.wantsStandIn 4 = false by kernel_rfl)

theorem card : Rows.GlobAgreesCardSaid :=
  Claim7.holds_tied_plain_at .later [] _ _ _ _ said (fun _ h => by cases h) (by kernel_rfl) (fun _ h => by cases h) globAgrees_row_tie rfl ⟨rfl, rfl⟩ (by kernel_rfl) rfl plain (by kernel_rfl)
end Go.Proofs.YtiekhoehkgmbjaaDoor.globAgrees
namespace Go.Proofs.YtiekhoehkgmbjaaDoor
theorem globAgrees_holds : Rows.GlobAgreesCardSaid := globAgrees.card
#print axioms globAgrees_holds
end Go.Proofs.YtiekhoehkgmbjaaDoor
