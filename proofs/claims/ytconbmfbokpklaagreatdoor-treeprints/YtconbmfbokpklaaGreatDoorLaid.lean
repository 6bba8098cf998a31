/- The package's errors: what the row's list gives; a world for the witness. -/
import Derived.Test.YtconbmfbokpklaaGreatDoorGErr
import Derived.Test.YtconbmfbokpklaaGreatDoorCards
import Derived.WalkKit
import Derived.ProofKit
import Derived.Stop.LaidTwo
import Derived.LaidSub
namespace Go.Proofs.YtconbmfbokpklaaGreatDoor
open Go.RowKit
theorem own : ownKnob Tryz.prog.godebug = none := by kernel_rfl
theorem Tryz.star : "*" ++ "errors.errorString" = "*errors.errorString" := by decide
theorem Tryz.row207 (u : TypeId) (h : Tryz.prog.typeName? 3 u = some "*errors.errorString") : u = 207 :=
  typeName_ptr_named (nm := "errors.errorString") (by rw [Tryz.star]; kernel_rfl) (by kernel_rfl) (by decide) u (by rw [Tryz.star]; exact h)
theorem Tryz.cells230 : Tryz.prog.cellsOf 230 = 1 := by kernel_rfl
theorem Tryz.cells9 : Tryz.prog.cellsOf 9 = 1 := by kernel_rfl
def sD (t : List UInt8) : DataW Unit := .iface "*errors.errorString" (.ptr (.agg [.lit (.string t)]))
def errL (x : List UInt8) (y : List UInt8) (n0 n1 : String) : List (String × DataW Unit) := [(n0, sD x), (n1, sD y)]
/-- Two neighbours of the list. -/
theorem two_sent {L : List (String × DataW Unit)} {W : World} (n0 n1 : String) (g0 g1 : Nat) (x y : List UInt8) (h : laidMet Tryz.prog L W) (hf : L.filter (fun z => z.1 == n0 || z.1 == n1) = errL x y n0 n1)
    (hg0 : Tryz.prog.globalNamed n0 = some g0) (hg1 : Tryz.prog.globalNamed n1 = some g1) (ht0 : (Tryz.prog.globals[g0]?).map (·.type) = some 48) (ht1 : (Tryz.prog.globals[g1]?).map (·.type) = some 48) :
    ∃ (a b : Addr) (s t : ByteArray), W.cell? ⟨g0, 0, none⟩ = some (.iface 207 (.pointer (some a))) ∧ W.cell? ⟨g1, 0, none⟩ = some (.iface 207 (.pointer (some b))) ∧ W.cell? a = some (.string s) ∧ s.data.toList = x ∧ W.cell? b = some (.string t) ∧ t.data.toList = y ∧ Pointee W.heap.size W a ∧ Pointee W.heap.size W b := by
  have h2 := h.filter (fun z => z.1 == n0 || z.1 == n1)
  rw [hf] at h2
  obtain ⟨a, b, s, t, c0, c1, t0, t1, hv0, hv1, hc0, hs0, _, hc1, hs1, _, _, hb0, hb1⟩ := laid_sentinels2 (P := Tryz.prog) (n0 := n0) (n1 := n1) (text0 := x) (text1 := y) (r := []) h2 hg0 ht0 hg1 ht1 Tryz.underlying48 Tryz.row207 Tryz.underlying207 Tryz.underlying230 rfl rfl Tryz.underlying9 Tryz.cells230 Tryz.cells9
  exact ⟨a, b, s, t, by simpa using World.var?_cell hg0 hv0 0, by simpa using World.var?_cell hg1 hv1 0, hc0, hs0, hc1, hs1, ⟨(Array.getElem?_eq_some_iff.1 hb0).1, _, _, hb0⟩, ⟨(Array.getElem?_eq_some_iff.1 hb1).1, _, _, hb1⟩⟩
theorem apart {W : World} {a b : Addr} {s t : ByteArray} {x y : List UInt8} (ha : W.cell? a = some (.string s)) (hs : s.data.toList = x) (hb : W.cell? b = some (.string t)) (ht : t.data.toList = y) (hxy : x ≠ y) : a ≠ b := by
  rintro rfl
  rw [ha] at hb
  cases hb
  exact hxy (hs.symm.trans ht)
def tText : List UInt8 := [97, 32, 108, 105, 110, 101, 32, 116, 104, 97, 116, 32, 104, 97, 115, 32, 110, 111, 116, 32, 116, 104, 101, 32, 102, 111, 114, 109]
def tMany : List UInt8 := [97, 32, 108, 105, 110, 101, 32, 109, 111, 114, 101, 32, 116, 104, 97, 110, 32, 116, 104, 101, 114, 101, 32, 109, 97, 121, 32, 98, 101]
def tNone : List UInt8 := [97, 32, 110, 111, 100, 101, 32, 116, 104, 97, 116, 32, 105, 115, 32, 110, 111, 116, 32, 116, 104, 101, 114, 101]
def tKind : List UInt8 := [97, 32, 110, 111, 100, 101, 32, 116, 104, 97, 116, 32, 105, 115, 32, 110, 111, 32, 100, 105, 114, 101, 99, 116, 111, 114, 121]
def tTwice : List UInt8 := [97, 32, 110, 111, 100, 101, 32, 116, 104, 97, 116, 32, 105, 115, 32, 116, 104, 101, 114, 101, 32, 97, 108, 114, 101, 97, 100, 121]
def tLoop : List UInt8 := [97, 32, 108, 105, 110, 107, 32, 109, 111, 114, 101, 32, 116, 104, 97, 110, 32, 97, 114, 101, 32, 103, 111, 110, 101, 32, 116, 104, 114, 111, 117, 103, 104]
theorem high_of {W : World} {n : Nat} {z : Value} (h : W.cell? ⟨n, 0, none⟩ = some z) : n < W.heap.size := by
  by_cases hlt : n < W.heap.size
  · exact hlt
  · rw [World.cell?, Array.getElem?_eq_none (by show W.heap.size ≤ n; omega)] at h
    cases h
theorem sent_of {L : List (String × DataW Unit)} {W : World} (h : laidMet Tryz.prog L W)
    (h1 : L.filter (fun z => z.1 == "sieve/tree.errText" || z.1 == "sieve/tree.errMany") = errL tText tMany "sieve/tree.errText" "sieve/tree.errMany")
    (h2 : L.filter (fun z => z.1 == "sieve/tree.errNone" || z.1 == "sieve/tree.errKind") = errL tNone tKind "sieve/tree.errNone" "sieve/tree.errKind")
    (h3 : L.filter (fun z => z.1 == "sieve/tree.errKind" || z.1 == "sieve/tree.errTwice") = errL tKind tTwice "sieve/tree.errKind" "sieve/tree.errTwice") :
    ∃ A : Ads, Sent W.heap.size A W := by
  obtain ⟨a0, a1, s0, s1, c0, c1, d0, e0, d1, e1, p0, p1⟩ := two_sent "sieve/tree.errText" "sieve/tree.errMany" 0 1 _ _ h h1 (by kernel_rfl) (by kernel_rfl) (by kernel_rfl) (by kernel_rfl)
  obtain ⟨a2, a3, s2, s3, c2, c3, d2, e2, d3, e3, p2, p3⟩ := two_sent "sieve/tree.errNone" "sieve/tree.errKind" 2 3 _ _ h h2 (by kernel_rfl) (by kernel_rfl) (by kernel_rfl) (by kernel_rfl)
  obtain ⟨_, a4, _, s4, _, c4, _, _, d4, e4, _, p4⟩ := two_sent "sieve/tree.errKind" "sieve/tree.errTwice" 3 4 _ _ h h3 (by kernel_rfl) (by kernel_rfl) (by kernel_rfl) (by kernel_rfl)
  exact ⟨⟨a0, a1, a2, a3, a4⟩, c0, c1, c2, c3, c4, p0, p1, p2, p3, p4, apart d0 e0 d1 e1 (by decide), apart d0 e0 d2 e2 (by decide), apart d0 e0 d3 e3 (by decide), apart d0 e0 d4 e4 (by decide), apart d1 e1 d2 e2 (by decide), apart d1 e1 d3 e3 (by decide), apart d1 e1 d4 e4 (by decide), apart d2 e2 d3 e3 (by decide), apart d2 e2 d4 e4 (by decide), apart d3 e3 d4 e4 (by decide), high_of c4⟩
/-! ### A world for the witness: the settled one, the tables and the errors holding what the lists say. -/
def fill (cs : Array Value) : Obj → Obj
  | .cells _ t frozen => .cells cs t frozen
  | o => o
noncomputable def laidWorld (os : Os) : World :=
  { World.holding Tryz.prog os ⟨#[], #[], []⟩ with heap := ((World.holding Tryz.prog os ⟨#[], #[], []⟩).heap.modify 8 (fill (Go.Pinned.utf8FirstZ.map fun (n : Nat) => Value.int .u8 (n : Int)).toArray)).modify 9 (fill #[.int .u8 128, .int .u8 191, .int .u8 160, .int .u8 191, .int .u8 128, .int .u8 159, .int .u8 144, .int .u8 191, .int .u8 128, .int .u8 143, .int .u8 0, .int .u8 0, .int .u8 0, .int .u8 0, .int .u8 0, .int .u8 0, .int .u8 0, .int .u8 0, .int .u8 0, .int .u8 0, .int .u8 0, .int .u8 0, .int .u8 0, .int .u8 0, .int .u8 0, .int .u8 0, .int .u8 0, .int .u8 0, .int .u8 0, .int .u8 0, .int .u8 0, .int .u8 0]) }
def laySent (h : Array Obj) (g : Nat) (t : List UInt8) : Array Obj := (h.modify g (fill #[.iface 207 (.pointer (some ⟨h.size, 0, none⟩))])).push (.cells #[.string ⟨t.toArray⟩] 230 (0, 0))
noncomputable def sentWorld (os : Os) : World :=
  { laidWorld os with heap := laySent (laySent (laySent (laySent (laySent (laySent (laidWorld os).heap 0 tText) 1 tMany) 2 tNone) 3 tKind) 4 tTwice) 6 tLoop }
end Go.Proofs.YtconbmfbokpklaaGreatDoor
