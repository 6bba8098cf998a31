/- The package's six errors: what the row's list gives; a world for the witness. -/
import Derived.Test.YtehbjabneocflaaDoorLawFinds
import Derived.Test.YtehbjabneocflaaDoorWitness
import Derived.Stop.LaidTwo
import Derived.LaidSub
namespace Go.Proofs.YtehbjabneocflaaDoor
open Go.RowKit
theorem Tryd.star : "*" ++ "errors.errorString" = "*errors.errorString" := by decide
theorem Tryd.row122 (u : TypeId) (h : Tryd.prog.typeName? 3 u = some "*errors.errorString") : u = 122 :=
  typeName_ptr_named (nm := "errors.errorString") (by rw [Tryd.star]; kernel_rfl) (by kernel_rfl) (by decide) u (by rw [Tryd.star]; exact h)
theorem Tryd.cells147 : Tryd.prog.cellsOf 147 = 1 := by kernel_rfl
theorem Tryd.cells9 : Tryd.prog.cellsOf 9 = 1 := by kernel_rfl
def sD (t : List UInt8) : DataW Unit := .iface "*errors.errorString" (.ptr (.agg [.lit (.string t)]))
def errL (x : List UInt8) (y : List UInt8) (n0 n1 : String) : List (String × DataW Unit) := [(n0, sD x), (n1, sD y)]
/-- Two neighbours of the list. -/
theorem two_sent {L : List (String × DataW Unit)} {W : World} (n0 n1 : String) (g0 g1 : Nat) (x y : List UInt8) (h : laidMet Tryd.prog L W) (hf : L.filter (fun z => z.1 == n0 || z.1 == n1) = errL x y n0 n1)
    (hg0 : Tryd.prog.globalNamed n0 = some g0) (hg1 : Tryd.prog.globalNamed n1 = some g1) (ht0 : (Tryd.prog.globals[g0]?).map (·.type) = some 59) (ht1 : (Tryd.prog.globals[g1]?).map (·.type) = some 59) :
    ∃ (a b : Addr) (s t : ByteArray), W.cell? ⟨g0, 0, none⟩ = some (.iface 122 (.pointer (some a))) ∧ W.cell? ⟨g1, 0, none⟩ = some (.iface 122 (.pointer (some b))) ∧ W.cell? a = some (.string s) ∧ s.data.toList = x ∧ W.cell? b = some (.string t) ∧ t.data.toList = y ∧ Pointee W.heap.size W a ∧ Pointee W.heap.size W b := by
  have h2 := h.filter (fun z => z.1 == n0 || z.1 == n1)
  rw [hf] at h2
  obtain ⟨a, b, s, t, c0, c1, t0, t1, hv0, hv1, hc0, hs0, _, hc1, hs1, _, _, hb0, hb1⟩ := laid_sentinels2 (P := Tryd.prog) (n0 := n0) (n1 := n1) (text0 := x) (text1 := y) (r := []) h2 hg0 ht0 hg1 ht1 Tryd.underlying59 Tryd.row122 Tryd.underlying122 Tryd.underlying147 rfl rfl Tryd.underlying9 Tryd.cells147 Tryd.cells9
  exact ⟨a, b, s, t, by simpa using World.var?_cell hg0 hv0 0, by simpa using World.var?_cell hg1 hv1 0, hc0, hs0, hc1, hs1, ⟨(Array.getElem?_eq_some_iff.1 hb0).1, _, _, hb0⟩, ⟨(Array.getElem?_eq_some_iff.1 hb1).1, _, _, hb1⟩⟩
theorem apart {W : World} {a b : Addr} {s t : ByteArray} {x y : List UInt8} (ha : W.cell? a = some (.string s)) (hs : s.data.toList = x) (hb : W.cell? b = some (.string t)) (ht : t.data.toList = y) (hxy : x ≠ y) : a ≠ b := by
  rintro rfl
  rw [ha] at hb
  cases hb
  exact hxy (hs.symm.trans ht)
def tText : List UInt8 := [97, 32, 108, 105, 110, 101, 32, 116, 104, 97, 116, 32, 104, 97, 115, 32, 110, 111, 116, 32, 116, 104, 101, 32, 102, 111, 114, 109]
def tMany : List UInt8 := [97, 32, 108, 105, 110, 101, 32, 109, 111, 114, 101, 32, 116, 104, 97, 110, 32, 116, 104, 101, 114, 101, 32, 109, 97, 121, 32, 98, 101]
def tNone : List UInt8 := [97, 32, 110, 111, 100, 101, 32, 116, 104, 97, 116, 32, 105, 115, 32, 110, 111, 116, 32, 116, 104, 101, 114, 101]
def tKind : List UInt8 := [97, 32, 110, 111, 100, 101, 32, 116, 104, 97, 116, 32, 105, 115, 32, 110, 111, 32, 100, 105, 114, 101, 99, 116, 111, 114, 121]
def tTwice : List UInt8 := [97, 32, 110, 111, 100, 101, 32, 116, 104, 97, 116, 32, 105, 115, 32, 116, 104, 101, 114, 101, 32, 97, 108, 114, 101, 97, 100, 121]
def tLoop : List UInt8 := [97, 32, 108, 105, 110, 107, 32, 109, 111, 114, 101, 32, 116, 104, 97, 110, 32, 97, 114, 101, 32, 103, 111, 110, 101, 32, 116, 104, 114, 111, 117, 103, 104]
theorem sent_of {L : List (String × DataW Unit)} {W : World} (h : laidMet Tryd.prog L W)
    (h1 : L.filter (fun z => z.1 == "sieve/tree.errText" || z.1 == "sieve/tree.errMany") = errL tText tMany "sieve/tree.errText" "sieve/tree.errMany")
    (h2 : L.filter (fun z => z.1 == "sieve/tree.errNone" || z.1 == "sieve/tree.errKind") = errL tNone tKind "sieve/tree.errNone" "sieve/tree.errKind")
    (h3 : L.filter (fun z => z.1 == "sieve/tree.errTwice" || z.1 == "sieve/tree.errLoop") = errL tTwice tLoop "sieve/tree.errTwice" "sieve/tree.errLoop") :
    ∃ a6 a7 a9 a2 a4 a8, Sent W.heap.size a6 a7 a9 a2 a4 a8 W := by
  obtain ⟨a2, a4, s2, s4, c2, c4, d2, e2, d4, e4, p2, p4⟩ := two_sent "sieve/tree.errText" "sieve/tree.errMany" 2 3 _ _ h h1 (by kernel_rfl) (by kernel_rfl) (by kernel_rfl) (by kernel_rfl)
  obtain ⟨a6, a7, s6, s7, c6, c7, d6, e6, d7, e7, p6, p7⟩ := two_sent "sieve/tree.errNone" "sieve/tree.errKind" 0 1 _ _ h h2 (by kernel_rfl) (by kernel_rfl) (by kernel_rfl) (by kernel_rfl)
  obtain ⟨a8, a9, s8, s9, c8, c9, d8, e8, d9, e9, p8, p9⟩ := two_sent "sieve/tree.errTwice" "sieve/tree.errLoop" 4 6 _ _ h h3 (by kernel_rfl) (by kernel_rfl) (by kernel_rfl) (by kernel_rfl)
  exact ⟨a6, a7, a9, a2, a4, a8, ⟨⟨c6, c7, c9⟩, c2, c4, c8, p6, p7, p9, p2, p4, p8, apart d6 e6 d2 e2 (by decide), apart d6 e6 d4 e4 (by decide), apart d7 e7 d2 e2 (by decide), apart d7 e7 d4 e4 (by decide), apart d7 e7 d6 e6 (by decide), apart d9 e9 d2 e2 (by decide), apart d9 e9 d4 e4 (by decide), apart d9 e9 d6 e6 (by decide), apart d9 e9 d7 e7 (by decide), apart d9 e9 d8 e8 (by decide)⟩⟩
/-- The witness's world with the six errors laid. -/
def laySent (h : Array Obj) (g : Nat) (t : List UInt8) : Array Obj := (h.modify g (fill #[.iface 122 (.pointer (some ⟨h.size, 0, none⟩))])).push (.cells #[.string ⟨t.toArray⟩] 147 (0, 0))
noncomputable def sentWorld (os : Os) : World :=
  { laidWorld os with heap := laySent (laySent (laySent (laySent (laySent (laySent (laidWorld os).heap 0 tNone) 1 tKind) 2 tText) 3 tMany) 4 tTwice) 6 tLoop }
end Go.Proofs.YtehbjabneocflaaDoor
