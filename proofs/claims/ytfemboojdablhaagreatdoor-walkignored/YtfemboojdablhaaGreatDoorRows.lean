/-
  NARROWER THAN 'FOR EVERY INPUT', by the rows' own cells (each row's printed sentence says how): WalkOnce: laid · WalkParts: laid · WalkDepths: laid · WalkIgnored: laid.
  DERIVED. THE GIVEN ROWS OF THIS SEAT. 4 by the template 'for every input the law returns true; each argument reads behind the call as it read before'; 0 by the template 'total and deterministic' (their statements: YtfemboojdablhaaGreatDoorTotals.lean).
  GIVEN WITH THE SEED: the statements are not yours to turn. If you find one false, say at which input.
  Laid BY PROGRAM, IN A SANDBOX (cutbox-rows.mjs): the forced cells as the released guide's own fill.sh prints them over the translation b3824c497afabc17… (all of the seat's roots in one cut). By AI agents, Wed Nov 11 2026. No macro, syntax, notation, axiom, sorry.
-/
import Derived.Test.YtfemboojdablhaaGreatDoorChecked
import GoSem.PinnedTables
import GoSem.Claim
import GoSem.ClaimJoined
import GoSem.ClaimMapViews
import Derived.JoinedTies
import Derived.KernelRfl
namespace Go.Proofs.YtfemboojdablhaaGreatDoor
/- THE CELL 'sum', in the pinned program and in every row, IS THE sha256 OF THE DUMP (.gsa) THAT YtfemboojdablhaaGreatDoorProg.lean LOADS. Nothing in Lean hashes anything: it is a label: what it is worth is what the hold of that sum in a sandbox is worth. -/
noncomputable def Tryz.pinned : Pinned := { name := "ytfemboojdablhaagreatdoor", sum := "b3824c497afabc1764c225eb389d05202bd2297a12d03ca24dc5a6fee8da81ff", checked := Tryz.checked }
namespace Rows
def none {H : Type} : Left H := { results := [], args := [] }

/- WHAT THE LISTED PACKAGE-LEVEL VARIABLES READ AS WHEN THE CALL BEGINS. Each datum BY PROGRAM (the guide's laid-datum.mjs) off the statement by which the dump's own 'gosem.cut.vars' lays the variable. In a bare row this is a premise. The card (YtfemboojdablhaaGreatDoorCards.lean) ties it to the program's text. -/
def laid_math_bits_deBruijn32tab {H : Type} : DataW H := .agg [.lit (.int .u8 0), .lit (.int .u8 1), .lit (.int .u8 28), .lit (.int .u8 2), .lit (.int .u8 29), .lit (.int .u8 14), .lit (.int .u8 24), .lit (.int .u8 3), .lit (.int .u8 30), .lit (.int .u8 22), .lit (.int .u8 20), .lit (.int .u8 15), .lit (.int .u8 25), .lit (.int .u8 17), .lit (.int .u8 4), .lit (.int .u8 8), .lit (.int .u8 31), .lit (.int .u8 27), .lit (.int .u8 13), .lit (.int .u8 23), .lit (.int .u8 21), .lit (.int .u8 19), .lit (.int .u8 16), .lit (.int .u8 7), .lit (.int .u8 26), .lit (.int .u8 12), .lit (.int .u8 18), .lit (.int .u8 6), .lit (.int .u8 11), .lit (.int .u8 5), .lit (.int .u8 10), .lit (.int .u8 9)]
def laid_math_bits_deBruijn64tab {H : Type} : DataW H := .agg [.lit (.int .u8 0), .lit (.int .u8 1), .lit (.int .u8 56), .lit (.int .u8 2), .lit (.int .u8 57), .lit (.int .u8 49), .lit (.int .u8 28), .lit (.int .u8 3), .lit (.int .u8 61), .lit (.int .u8 58), .lit (.int .u8 42), .lit (.int .u8 50), .lit (.int .u8 38), .lit (.int .u8 29), .lit (.int .u8 17), .lit (.int .u8 4), .lit (.int .u8 62), .lit (.int .u8 47), .lit (.int .u8 59), .lit (.int .u8 36), .lit (.int .u8 45), .lit (.int .u8 43), .lit (.int .u8 51), .lit (.int .u8 22), .lit (.int .u8 53), .lit (.int .u8 39), .lit (.int .u8 33), .lit (.int .u8 30), .lit (.int .u8 24), .lit (.int .u8 18), .lit (.int .u8 12), .lit (.int .u8 5), .lit (.int .u8 63), .lit (.int .u8 55), .lit (.int .u8 48), .lit (.int .u8 27), .lit (.int .u8 60), .lit (.int .u8 41), .lit (.int .u8 37), .lit (.int .u8 16), .lit (.int .u8 46), .lit (.int .u8 35), .lit (.int .u8 44), .lit (.int .u8 21), .lit (.int .u8 52), .lit (.int .u8 32), .lit (.int .u8 23), .lit (.int .u8 11), .lit (.int .u8 54), .lit (.int .u8 26), .lit (.int .u8 40), .lit (.int .u8 15), .lit (.int .u8 34), .lit (.int .u8 20), .lit (.int .u8 31), .lit (.int .u8 10), .lit (.int .u8 25), .lit (.int .u8 14), .lit (.int .u8 19), .lit (.int .u8 9), .lit (.int .u8 13), .lit (.int .u8 8), .lit (.int .u8 7), .lit (.int .u8 6)]
def laid_internal_strconv_uint64pow10 {H : Type} : DataW H := .agg [.lit (.int .u64 1), .lit (.int .u64 10), .lit (.int .u64 100), .lit (.int .u64 1000), .lit (.int .u64 10000), .lit (.int .u64 100000), .lit (.int .u64 1000000), .lit (.int .u64 10000000), .lit (.int .u64 100000000), .lit (.int .u64 1000000000), .lit (.int .u64 10000000000), .lit (.int .u64 100000000000), .lit (.int .u64 1000000000000), .lit (.int .u64 10000000000000), .lit (.int .u64 100000000000000), .lit (.int .u64 1000000000000000), .lit (.int .u64 10000000000000000), .lit (.int .u64 100000000000000000), .lit (.int .u64 1000000000000000000), .lit (.int .u64 10000000000000000000)]
def laid_unicode_utf8_acceptRanges {H : Type} : DataW H := .agg [.agg [.lit (.int .u8 128), .lit (.int .u8 191)], .agg [.lit (.int .u8 160), .lit (.int .u8 191)], .agg [.lit (.int .u8 128), .lit (.int .u8 159)], .agg [.lit (.int .u8 144), .lit (.int .u8 191)], .agg [.lit (.int .u8 128), .lit (.int .u8 143)], .agg [.lit (.int .u8 0), .lit (.int .u8 0)], .agg [.lit (.int .u8 0), .lit (.int .u8 0)], .agg [.lit (.int .u8 0), .lit (.int .u8 0)], .agg [.lit (.int .u8 0), .lit (.int .u8 0)], .agg [.lit (.int .u8 0), .lit (.int .u8 0)], .agg [.lit (.int .u8 0), .lit (.int .u8 0)], .agg [.lit (.int .u8 0), .lit (.int .u8 0)], .agg [.lit (.int .u8 0), .lit (.int .u8 0)], .agg [.lit (.int .u8 0), .lit (.int .u8 0)], .agg [.lit (.int .u8 0), .lit (.int .u8 0)], .agg [.lit (.int .u8 0), .lit (.int .u8 0)]]
def laid_sieve_tree_errText {H : Type} : DataW H := .iface "*errors.errorString" (.ptr (.agg [.lit (.string [97, 32, 108, 105, 110, 101, 32, 116, 104, 97, 116, 32, 104, 97, 115, 32, 110, 111, 116, 32, 116, 104, 101, 32, 102, 111, 114, 109])]))
def laid_sieve_tree_errMany {H : Type} : DataW H := .iface "*errors.errorString" (.ptr (.agg [.lit (.string [97, 32, 108, 105, 110, 101, 32, 109, 111, 114, 101, 32, 116, 104, 97, 110, 32, 116, 104, 101, 114, 101, 32, 109, 97, 121, 32, 98, 101])]))
def laid_sieve_tree_errNone {H : Type} : DataW H := .iface "*errors.errorString" (.ptr (.agg [.lit (.string [97, 32, 110, 111, 100, 101, 32, 116, 104, 97, 116, 32, 105, 115, 32, 110, 111, 116, 32, 116, 104, 101, 114, 101])]))
def laid_sieve_tree_errKind {H : Type} : DataW H := .iface "*errors.errorString" (.ptr (.agg [.lit (.string [97, 32, 110, 111, 100, 101, 32, 116, 104, 97, 116, 32, 105, 115, 32, 110, 111, 32, 100, 105, 114, 101, 99, 116, 111, 114, 121])]))
def laid_sieve_tree_errTwice {H : Type} : DataW H := .iface "*errors.errorString" (.ptr (.agg [.lit (.string [97, 32, 110, 111, 100, 101, 32, 116, 104, 97, 116, 32, 105, 115, 32, 116, 104, 101, 114, 101, 32, 97, 108, 114, 101, 97, 100, 121])]))
def laid_sieve_tree_errLoop {H : Type} : DataW H := .iface "*errors.errorString" (.ptr (.agg [.lit (.string [97, 32, 108, 105, 110, 107, 32, 109, 111, 114, 101, 32, 116, 104, 97, 110, 32, 97, 114, 101, 32, 103, 111, 110, 101, 32, 116, 104, 114, 111, 117, 103, 104])]))
def laid_sieve_walk_errQuit {H : Type} : DataW H := .iface "*errors.errorString" (.ptr (.agg [.lit (.string [110, 111, 116, 104, 105, 110, 103, 32, 109, 111, 114, 101, 32, 105, 115, 32, 119, 97, 110, 116, 101, 100])]))
def laid_sieve_walk_errMany {H : Type} : DataW H := .iface "*errors.errorString" (.ptr (.agg [.lit (.string [97, 32, 110, 111, 100, 101, 32, 109, 111, 114, 101, 32, 116, 104, 97, 110, 32, 109, 97, 121, 32, 98, 101, 32, 103, 111, 110, 101, 32, 116, 111])]))
/-- One of Go's own tables, pinned by name: the form's constant. -/
def laid_unicode_utf8_first : DataW Unit := Go.Pinned.utf8First

/-- 'sievelaw.WalkOnce': WHATEVER THE INPUT: true; the input reads as it did. -/
def walkOnceSpec : ChangeSpec := { name := "walkOnce", fn := fun _ => fun
  | [d1, d2] => { results := [.lit (.bool true)], args := [d1, d2] }
  | _ => none }
def walkOnceRow : OpenClaim := { program := "ytfemboojdablhaagreatdoor", sum := "b3824c497afabc1764c225eb389d05202bd2297a12d03ca24dc5a6fee8da81ff", func := "sieve/sievelaw.WalkOnce", spec := "walkOnce", inPlace := ["internal/bytealg.IndexByteString", "internal/bytealg.IndexString", "internal/reflectlite.TypeOf", "internal/bytealg.CountString", "internal/abi.NoEscape"], unfollowed := true, recurses := true, named := ["sieve/tree.errNone", "sieve/tree.errKind", "unicode/utf8.first", "unicode/utf8.acceptRanges", "internal/bytealg.MaxLen", "sieve/tree.errLoop", "sieve/tree.errText", "sieve/tree.errMany", "sieve/tree.errTwice", "math/bits.deBruijn64tab", "sieve/walk.errQuit", "sieve/walk.errMany", "internal/strconv.uint64pow10", "math/bits.deBruijn32tab"], plainKeys := false, apart := false, laid := [("math/bits.deBruijn32tab", laid_math_bits_deBruijn32tab), ("math/bits.deBruijn64tab", laid_math_bits_deBruijn64tab), ("internal/strconv.uint64pow10", laid_internal_strconv_uint64pow10), ("unicode/utf8.acceptRanges", laid_unicode_utf8_acceptRanges), ("sieve/tree.errText", laid_sieve_tree_errText), ("sieve/tree.errMany", laid_sieve_tree_errMany), ("sieve/tree.errNone", laid_sieve_tree_errNone), ("sieve/tree.errKind", laid_sieve_tree_errKind), ("sieve/tree.errTwice", laid_sieve_tree_errTwice), ("sieve/tree.errLoop", laid_sieve_tree_errLoop), ("sieve/walk.errQuit", laid_sieve_walk_errQuit), ("sieve/walk.errMany", laid_sieve_walk_errMany), ("unicode/utf8.first", laid_unicode_utf8_first)] }
def WalkOnceSaid : Prop := walkOnceRow.holds Tryz.pinned (OpenSpec.ofChange walkOnceSpec)

/-- ITS FALSE NEIGHBOUR: 'it returns false'. Refute it at one input. -/
def walkOnceWrong : ChangeSpec := { name := "walkOnce", fn := fun _ => fun
  | [d1, d2] => { results := [.lit (.bool false)], args := [d1, d2] }
  | _ => none }
def WalkOnceWrongFalsely : Prop := walkOnceRow.holds Tryz.pinned (OpenSpec.ofChange walkOnceWrong)

/-- 'sievelaw.WalkParts': WHATEVER THE INPUT: true; the input reads as it did. -/
def walkPartsSpec : ChangeSpec := { name := "walkParts", fn := fun _ => fun
  | [d1, d2, d3, d4] => { results := [.lit (.bool true)], args := [d1, d2, d3, d4] }
  | _ => none }
def walkPartsRow : OpenClaim := { program := "ytfemboojdablhaagreatdoor", sum := "b3824c497afabc1764c225eb389d05202bd2297a12d03ca24dc5a6fee8da81ff", func := "sieve/sievelaw.WalkParts", spec := "walkParts", inPlace := ["internal/bytealg.IndexByteString", "internal/bytealg.IndexString", "internal/reflectlite.TypeOf", "internal/bytealg.CountString", "internal/abi.NoEscape"], unfollowed := true, recurses := true, named := ["sieve/tree.errNone", "sieve/tree.errKind", "unicode/utf8.first", "unicode/utf8.acceptRanges", "internal/bytealg.MaxLen", "sieve/tree.errLoop", "sieve/tree.errText", "sieve/tree.errMany", "sieve/tree.errTwice", "math/bits.deBruijn64tab", "sieve/walk.errQuit", "sieve/walk.errMany", "internal/strconv.uint64pow10", "math/bits.deBruijn32tab"], plainKeys := false, apart := false, laid := [("math/bits.deBruijn32tab", laid_math_bits_deBruijn32tab), ("math/bits.deBruijn64tab", laid_math_bits_deBruijn64tab), ("internal/strconv.uint64pow10", laid_internal_strconv_uint64pow10), ("unicode/utf8.acceptRanges", laid_unicode_utf8_acceptRanges), ("sieve/tree.errText", laid_sieve_tree_errText), ("sieve/tree.errMany", laid_sieve_tree_errMany), ("sieve/tree.errNone", laid_sieve_tree_errNone), ("sieve/tree.errKind", laid_sieve_tree_errKind), ("sieve/tree.errTwice", laid_sieve_tree_errTwice), ("sieve/tree.errLoop", laid_sieve_tree_errLoop), ("sieve/walk.errQuit", laid_sieve_walk_errQuit), ("sieve/walk.errMany", laid_sieve_walk_errMany), ("unicode/utf8.first", laid_unicode_utf8_first)] }
def WalkPartsSaid : Prop := walkPartsRow.holds Tryz.pinned (OpenSpec.ofChange walkPartsSpec)

/-- ITS FALSE NEIGHBOUR: 'it returns false'. Refute it at one input. -/
def walkPartsWrong : ChangeSpec := { name := "walkParts", fn := fun _ => fun
  | [d1, d2, d3, d4] => { results := [.lit (.bool false)], args := [d1, d2, d3, d4] }
  | _ => none }
def WalkPartsWrongFalsely : Prop := walkPartsRow.holds Tryz.pinned (OpenSpec.ofChange walkPartsWrong)

/-- 'sievelaw.WalkDepths': WHATEVER THE INPUT: true; the input reads as it did. -/
def walkDepthsSpec : ChangeSpec := { name := "walkDepths", fn := fun _ => fun
  | [d1, d2, d3] => { results := [.lit (.bool true)], args := [d1, d2, d3] }
  | _ => none }
def walkDepthsRow : OpenClaim := { program := "ytfemboojdablhaagreatdoor", sum := "b3824c497afabc1764c225eb389d05202bd2297a12d03ca24dc5a6fee8da81ff", func := "sieve/sievelaw.WalkDepths", spec := "walkDepths", inPlace := ["internal/bytealg.IndexByteString", "internal/bytealg.IndexString", "internal/reflectlite.TypeOf", "internal/bytealg.CountString", "internal/abi.NoEscape"], unfollowed := true, recurses := true, named := ["sieve/tree.errNone", "sieve/tree.errKind", "unicode/utf8.first", "unicode/utf8.acceptRanges", "internal/bytealg.MaxLen", "sieve/tree.errLoop", "sieve/tree.errText", "sieve/tree.errMany", "sieve/tree.errTwice", "math/bits.deBruijn64tab", "sieve/walk.errQuit", "sieve/walk.errMany", "internal/strconv.uint64pow10", "math/bits.deBruijn32tab"], plainKeys := false, apart := false, laid := [("math/bits.deBruijn32tab", laid_math_bits_deBruijn32tab), ("math/bits.deBruijn64tab", laid_math_bits_deBruijn64tab), ("internal/strconv.uint64pow10", laid_internal_strconv_uint64pow10), ("unicode/utf8.acceptRanges", laid_unicode_utf8_acceptRanges), ("sieve/tree.errText", laid_sieve_tree_errText), ("sieve/tree.errMany", laid_sieve_tree_errMany), ("sieve/tree.errNone", laid_sieve_tree_errNone), ("sieve/tree.errKind", laid_sieve_tree_errKind), ("sieve/tree.errTwice", laid_sieve_tree_errTwice), ("sieve/tree.errLoop", laid_sieve_tree_errLoop), ("sieve/walk.errQuit", laid_sieve_walk_errQuit), ("sieve/walk.errMany", laid_sieve_walk_errMany), ("unicode/utf8.first", laid_unicode_utf8_first)] }
def WalkDepthsSaid : Prop := walkDepthsRow.holds Tryz.pinned (OpenSpec.ofChange walkDepthsSpec)

/-- ITS FALSE NEIGHBOUR: 'it returns false'. Refute it at one input. -/
def walkDepthsWrong : ChangeSpec := { name := "walkDepths", fn := fun _ => fun
  | [d1, d2, d3] => { results := [.lit (.bool false)], args := [d1, d2, d3] }
  | _ => none }
def WalkDepthsWrongFalsely : Prop := walkDepthsRow.holds Tryz.pinned (OpenSpec.ofChange walkDepthsWrong)

/-- 'sievelaw.WalkIgnored': WHATEVER THE INPUT: true; the input reads as it did. -/
def walkIgnoredSpec : ChangeSpec := { name := "walkIgnored", fn := fun _ => fun
  | [d] => { results := [.lit (.bool true)], args := [d] }
  | _ => none }
def walkIgnoredRow : OpenClaim := { program := "ytfemboojdablhaagreatdoor", sum := "b3824c497afabc1764c225eb389d05202bd2297a12d03ca24dc5a6fee8da81ff", func := "sieve/sievelaw.WalkIgnored", spec := "walkIgnored", inPlace := ["internal/bytealg.IndexByteString", "internal/bytealg.IndexString", "internal/reflectlite.TypeOf", "internal/bytealg.CountString", "internal/abi.NoEscape"], unfollowed := true, recurses := true, named := ["sieve/tree.errNone", "sieve/tree.errKind", "unicode/utf8.first", "unicode/utf8.acceptRanges", "internal/bytealg.MaxLen", "sieve/tree.errLoop", "sieve/tree.errText", "sieve/tree.errMany", "sieve/tree.errTwice", "math/bits.deBruijn64tab", "sieve/walk.errQuit", "sieve/walk.errMany", "internal/strconv.uint64pow10", "math/bits.deBruijn32tab"], plainKeys := false, apart := false, laid := [("math/bits.deBruijn32tab", laid_math_bits_deBruijn32tab), ("math/bits.deBruijn64tab", laid_math_bits_deBruijn64tab), ("internal/strconv.uint64pow10", laid_internal_strconv_uint64pow10), ("unicode/utf8.acceptRanges", laid_unicode_utf8_acceptRanges), ("sieve/tree.errText", laid_sieve_tree_errText), ("sieve/tree.errMany", laid_sieve_tree_errMany), ("sieve/tree.errNone", laid_sieve_tree_errNone), ("sieve/tree.errKind", laid_sieve_tree_errKind), ("sieve/tree.errTwice", laid_sieve_tree_errTwice), ("sieve/tree.errLoop", laid_sieve_tree_errLoop), ("sieve/walk.errQuit", laid_sieve_walk_errQuit), ("sieve/walk.errMany", laid_sieve_walk_errMany), ("unicode/utf8.first", laid_unicode_utf8_first)] }
def WalkIgnoredSaid : Prop := walkIgnoredRow.holds Tryz.pinned (OpenSpec.ofChange walkIgnoredSpec)

/-- ITS FALSE NEIGHBOUR: 'it returns false'. Refute it at one input. -/
def walkIgnoredWrong : ChangeSpec := { name := "walkIgnored", fn := fun _ => fun
  | [d] => { results := [.lit (.bool false)], args := [d] }
  | _ => none }
def WalkIgnoredWrongFalsely : Prop := walkIgnoredRow.holds Tryz.pinned (OpenSpec.ofChange walkIgnoredWrong)

/- THE SECOND FORM. 'bulk': how many values and letters a reading holds, each counted each time it is reached (what is shared counts as often as it is met; a slice's spare places count too). A statement '..UptoSaid' is the law's where the arguments, and the package variables that the reading takes, are together of bulk at most 1048576: NARROWER than '..Said'. Prove '..Said' where nothing that the law and all that it calls make is longer than what came in: it says more and counts as full. Else prove '..UptoSaid'. A law counts once. -/
mutual
def uptoBulk {H : Type} : DataW H → Nat
  | .lit (.string bytes) => bytes.length + 1
  | .lit _ => 1
  | .nil => 1
  | .ptr d => uptoBulk d + 1
  | .slice elems spare => uptoBulkAll elems + uptoBulkAll spare + 1
  | .agg parts => uptoBulkAll parts + 1
  | .iface _ d => uptoBulk d + 1
  | .map entries => uptoBulkEntries entries + 1
  | .held _ => 1
def uptoBulkAll {H : Type} : List (DataW H) → Nat
  | [] => 0
  | d :: r => uptoBulk d + uptoBulkAll r
def uptoBulkEntries {H : Type} : List (Lit × DataW H) → Nat
  | [] => 0
  | x :: r => uptoBulkEntry x + uptoBulkEntries r
def uptoBulkEntry {H : Type} : Lit × DataW H → Nat
  | (.string bytes, d) => bytes.length + uptoBulk d + 1
  | (_, d) => uptoBulk d + 1
 end
def uptoSmall : (H : Type) → List (DataW H) → Bool := fun _ ds => decide (uptoBulkAll ds ≤ 1048576)
def OpenSpec.upto (s : _root_.Go.ChangeSpec) : _root_.Go.OpenSpec := { _root_.Go.OpenSpec.ofChange s with cond := some uptoSmall }

/-- 'sievelaw.WalkOnce', WHERE WHAT IT READS IS OF BULK AT MOST 1048576: true; the input reads as it did. -/
def walkOnceUptoRow : OpenClaim := { program := "ytfemboojdablhaagreatdoor", sum := "b3824c497afabc1764c225eb389d05202bd2297a12d03ca24dc5a6fee8da81ff", func := "sieve/sievelaw.WalkOnce", spec := "walkOnce", inPlace := ["internal/bytealg.IndexByteString", "internal/bytealg.IndexString", "internal/reflectlite.TypeOf", "internal/bytealg.CountString", "internal/abi.NoEscape"], unfollowed := true, recurses := true, named := ["sieve/tree.errNone", "sieve/tree.errKind", "unicode/utf8.first", "unicode/utf8.acceptRanges", "internal/bytealg.MaxLen", "sieve/tree.errLoop", "sieve/tree.errText", "sieve/tree.errMany", "sieve/tree.errTwice", "math/bits.deBruijn64tab", "sieve/walk.errQuit", "sieve/walk.errMany", "internal/strconv.uint64pow10", "math/bits.deBruijn32tab"], plainKeys := false, apart := false, laid := [("math/bits.deBruijn32tab", laid_math_bits_deBruijn32tab), ("math/bits.deBruijn64tab", laid_math_bits_deBruijn64tab), ("internal/strconv.uint64pow10", laid_internal_strconv_uint64pow10), ("unicode/utf8.acceptRanges", laid_unicode_utf8_acceptRanges), ("sieve/tree.errText", laid_sieve_tree_errText), ("sieve/tree.errMany", laid_sieve_tree_errMany), ("sieve/tree.errNone", laid_sieve_tree_errNone), ("sieve/tree.errKind", laid_sieve_tree_errKind), ("sieve/tree.errTwice", laid_sieve_tree_errTwice), ("sieve/tree.errLoop", laid_sieve_tree_errLoop), ("sieve/walk.errQuit", laid_sieve_walk_errQuit), ("sieve/walk.errMany", laid_sieve_walk_errMany), ("unicode/utf8.first", laid_unicode_utf8_first)], narrowed := true }
def WalkOnceUptoSaid : Prop := walkOnceUptoRow.holds Tryz.pinned (OpenSpec.upto walkOnceSpec)

/-- 'sievelaw.WalkParts', WHERE WHAT IT READS IS OF BULK AT MOST 1048576: true; the input reads as it did. -/
def walkPartsUptoRow : OpenClaim := { program := "ytfemboojdablhaagreatdoor", sum := "b3824c497afabc1764c225eb389d05202bd2297a12d03ca24dc5a6fee8da81ff", func := "sieve/sievelaw.WalkParts", spec := "walkParts", inPlace := ["internal/bytealg.IndexByteString", "internal/bytealg.IndexString", "internal/reflectlite.TypeOf", "internal/bytealg.CountString", "internal/abi.NoEscape"], unfollowed := true, recurses := true, named := ["sieve/tree.errNone", "sieve/tree.errKind", "unicode/utf8.first", "unicode/utf8.acceptRanges", "internal/bytealg.MaxLen", "sieve/tree.errLoop", "sieve/tree.errText", "sieve/tree.errMany", "sieve/tree.errTwice", "math/bits.deBruijn64tab", "sieve/walk.errQuit", "sieve/walk.errMany", "internal/strconv.uint64pow10", "math/bits.deBruijn32tab"], plainKeys := false, apart := false, laid := [("math/bits.deBruijn32tab", laid_math_bits_deBruijn32tab), ("math/bits.deBruijn64tab", laid_math_bits_deBruijn64tab), ("internal/strconv.uint64pow10", laid_internal_strconv_uint64pow10), ("unicode/utf8.acceptRanges", laid_unicode_utf8_acceptRanges), ("sieve/tree.errText", laid_sieve_tree_errText), ("sieve/tree.errMany", laid_sieve_tree_errMany), ("sieve/tree.errNone", laid_sieve_tree_errNone), ("sieve/tree.errKind", laid_sieve_tree_errKind), ("sieve/tree.errTwice", laid_sieve_tree_errTwice), ("sieve/tree.errLoop", laid_sieve_tree_errLoop), ("sieve/walk.errQuit", laid_sieve_walk_errQuit), ("sieve/walk.errMany", laid_sieve_walk_errMany), ("unicode/utf8.first", laid_unicode_utf8_first)], narrowed := true }
def WalkPartsUptoSaid : Prop := walkPartsUptoRow.holds Tryz.pinned (OpenSpec.upto walkPartsSpec)

/-- 'sievelaw.WalkDepths', WHERE WHAT IT READS IS OF BULK AT MOST 1048576: true; the input reads as it did. -/
def walkDepthsUptoRow : OpenClaim := { program := "ytfemboojdablhaagreatdoor", sum := "b3824c497afabc1764c225eb389d05202bd2297a12d03ca24dc5a6fee8da81ff", func := "sieve/sievelaw.WalkDepths", spec := "walkDepths", inPlace := ["internal/bytealg.IndexByteString", "internal/bytealg.IndexString", "internal/reflectlite.TypeOf", "internal/bytealg.CountString", "internal/abi.NoEscape"], unfollowed := true, recurses := true, named := ["sieve/tree.errNone", "sieve/tree.errKind", "unicode/utf8.first", "unicode/utf8.acceptRanges", "internal/bytealg.MaxLen", "sieve/tree.errLoop", "sieve/tree.errText", "sieve/tree.errMany", "sieve/tree.errTwice", "math/bits.deBruijn64tab", "sieve/walk.errQuit", "sieve/walk.errMany", "internal/strconv.uint64pow10", "math/bits.deBruijn32tab"], plainKeys := false, apart := false, laid := [("math/bits.deBruijn32tab", laid_math_bits_deBruijn32tab), ("math/bits.deBruijn64tab", laid_math_bits_deBruijn64tab), ("internal/strconv.uint64pow10", laid_internal_strconv_uint64pow10), ("unicode/utf8.acceptRanges", laid_unicode_utf8_acceptRanges), ("sieve/tree.errText", laid_sieve_tree_errText), ("sieve/tree.errMany", laid_sieve_tree_errMany), ("sieve/tree.errNone", laid_sieve_tree_errNone), ("sieve/tree.errKind", laid_sieve_tree_errKind), ("sieve/tree.errTwice", laid_sieve_tree_errTwice), ("sieve/tree.errLoop", laid_sieve_tree_errLoop), ("sieve/walk.errQuit", laid_sieve_walk_errQuit), ("sieve/walk.errMany", laid_sieve_walk_errMany), ("unicode/utf8.first", laid_unicode_utf8_first)], narrowed := true }
def WalkDepthsUptoSaid : Prop := walkDepthsUptoRow.holds Tryz.pinned (OpenSpec.upto walkDepthsSpec)

/-- 'sievelaw.WalkIgnored', WHERE WHAT IT READS IS OF BULK AT MOST 1048576: true; the input reads as it did. -/
def walkIgnoredUptoRow : OpenClaim := { program := "ytfemboojdablhaagreatdoor", sum := "b3824c497afabc1764c225eb389d05202bd2297a12d03ca24dc5a6fee8da81ff", func := "sieve/sievelaw.WalkIgnored", spec := "walkIgnored", inPlace := ["internal/bytealg.IndexByteString", "internal/bytealg.IndexString", "internal/reflectlite.TypeOf", "internal/bytealg.CountString", "internal/abi.NoEscape"], unfollowed := true, recurses := true, named := ["sieve/tree.errNone", "sieve/tree.errKind", "unicode/utf8.first", "unicode/utf8.acceptRanges", "internal/bytealg.MaxLen", "sieve/tree.errLoop", "sieve/tree.errText", "sieve/tree.errMany", "sieve/tree.errTwice", "math/bits.deBruijn64tab", "sieve/walk.errQuit", "sieve/walk.errMany", "internal/strconv.uint64pow10", "math/bits.deBruijn32tab"], plainKeys := false, apart := false, laid := [("math/bits.deBruijn32tab", laid_math_bits_deBruijn32tab), ("math/bits.deBruijn64tab", laid_math_bits_deBruijn64tab), ("internal/strconv.uint64pow10", laid_internal_strconv_uint64pow10), ("unicode/utf8.acceptRanges", laid_unicode_utf8_acceptRanges), ("sieve/tree.errText", laid_sieve_tree_errText), ("sieve/tree.errMany", laid_sieve_tree_errMany), ("sieve/tree.errNone", laid_sieve_tree_errNone), ("sieve/tree.errKind", laid_sieve_tree_errKind), ("sieve/tree.errTwice", laid_sieve_tree_errTwice), ("sieve/tree.errLoop", laid_sieve_tree_errLoop), ("sieve/walk.errQuit", laid_sieve_walk_errQuit), ("sieve/walk.errMany", laid_sieve_walk_errMany), ("unicode/utf8.first", laid_unicode_utf8_first)], narrowed := true }
def WalkIgnoredUptoSaid : Prop := walkIgnoredUptoRow.holds Tryz.pinned (OpenSpec.upto walkIgnoredSpec)

end Rows
end Go.Proofs.YtfemboojdablhaaGreatDoor
