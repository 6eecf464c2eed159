/-
  NARROWER THAN 'FOR EVERY INPUT', by the rows' own cells (each row's printed sentence says how): LineTells: laid · LineTrims: laid · LineAgain: laid · EvalsExact: laid · EvalsFloat: laid · EvalsTrims: laid.
  DERIVED. THE GIVEN ROWS OF THIS SEAT. 6 by the template 'for every input the law returns true; each argument reads behind the call as it read before'; 0 by the template 'total and deterministic' (their statements: YtibgpeaplmcogaaGreatDoorTotals.lean).
  GIVEN WITH THE SEED: the statements are not yours to turn. If you find one false, say at which input.
  Laid BY PROGRAM, IN A SANDBOX (cutbox-rows.mjs): the forced cells as the released guide's own fill.sh prints them over the translation b91bc9c084017150… (all of the seat's roots in one cut). By AI agents, Wed Nov 11 2026. No macro, syntax, notation, axiom, sorry.
-/
import Derived.Test.YtibgpeaplmcogaaGreatDoorChecked
import GoSem.PinnedTables
import GoSem.Claim
import GoSem.ClaimJoined
import GoSem.ClaimMapViews
import Derived.JoinedTies
import Derived.KernelRfl
namespace Go.Proofs.YtibgpeaplmcogaaGreatDoor
/- THE CELL 'sum', in the pinned program and in every row, IS THE sha256 OF THE DUMP (.gsa) THAT YtibgpeaplmcogaaGreatDoorProg.lean LOADS. Nothing in Lean hashes anything: it is a label: what it is worth is what the hold of that sum in a sandbox is worth. -/
noncomputable def Tryz.pinned : Pinned := { name := "ytibgpeaplmcogaagreatdoor", sum := "b91bc9c08401715085dced908af05cf35b0c8fade4ca345c2dfcbc824a0b567f", checked := Tryz.checked }
namespace Rows
def none {H : Type} : Left H := { results := [], args := [] }

/- WHAT THE LISTED PACKAGE-LEVEL VARIABLES READ AS WHEN THE CALL BEGINS. Each datum BY PROGRAM (the guide's laid-datum.mjs) off the statement by which the dump's own 'gosem.cut.vars' lays the variable. In a bare row this is a premise. The card (YtibgpeaplmcogaaGreatDoorCards.lean) ties it to the program's text. -/
def laid_math_bits_deBruijn32tab {H : Type} : DataW H := .agg [.lit (.int .u8 0), .lit (.int .u8 1), .lit (.int .u8 28), .lit (.int .u8 2), .lit (.int .u8 29), .lit (.int .u8 14), .lit (.int .u8 24), .lit (.int .u8 3), .lit (.int .u8 30), .lit (.int .u8 22), .lit (.int .u8 20), .lit (.int .u8 15), .lit (.int .u8 25), .lit (.int .u8 17), .lit (.int .u8 4), .lit (.int .u8 8), .lit (.int .u8 31), .lit (.int .u8 27), .lit (.int .u8 13), .lit (.int .u8 23), .lit (.int .u8 21), .lit (.int .u8 19), .lit (.int .u8 16), .lit (.int .u8 7), .lit (.int .u8 26), .lit (.int .u8 12), .lit (.int .u8 18), .lit (.int .u8 6), .lit (.int .u8 11), .lit (.int .u8 5), .lit (.int .u8 10), .lit (.int .u8 9)]
def laid_math_bits_deBruijn64tab {H : Type} : DataW H := .agg [.lit (.int .u8 0), .lit (.int .u8 1), .lit (.int .u8 56), .lit (.int .u8 2), .lit (.int .u8 57), .lit (.int .u8 49), .lit (.int .u8 28), .lit (.int .u8 3), .lit (.int .u8 61), .lit (.int .u8 58), .lit (.int .u8 42), .lit (.int .u8 50), .lit (.int .u8 38), .lit (.int .u8 29), .lit (.int .u8 17), .lit (.int .u8 4), .lit (.int .u8 62), .lit (.int .u8 47), .lit (.int .u8 59), .lit (.int .u8 36), .lit (.int .u8 45), .lit (.int .u8 43), .lit (.int .u8 51), .lit (.int .u8 22), .lit (.int .u8 53), .lit (.int .u8 39), .lit (.int .u8 33), .lit (.int .u8 30), .lit (.int .u8 24), .lit (.int .u8 18), .lit (.int .u8 12), .lit (.int .u8 5), .lit (.int .u8 63), .lit (.int .u8 55), .lit (.int .u8 48), .lit (.int .u8 27), .lit (.int .u8 60), .lit (.int .u8 41), .lit (.int .u8 37), .lit (.int .u8 16), .lit (.int .u8 46), .lit (.int .u8 35), .lit (.int .u8 44), .lit (.int .u8 21), .lit (.int .u8 52), .lit (.int .u8 32), .lit (.int .u8 23), .lit (.int .u8 11), .lit (.int .u8 54), .lit (.int .u8 26), .lit (.int .u8 40), .lit (.int .u8 15), .lit (.int .u8 34), .lit (.int .u8 20), .lit (.int .u8 31), .lit (.int .u8 10), .lit (.int .u8 25), .lit (.int .u8 14), .lit (.int .u8 19), .lit (.int .u8 9), .lit (.int .u8 13), .lit (.int .u8 8), .lit (.int .u8 7), .lit (.int .u8 6)]
def laid_internal_strconv_uint64pow10 {H : Type} : DataW H := .agg [.lit (.int .u64 1), .lit (.int .u64 10), .lit (.int .u64 100), .lit (.int .u64 1000), .lit (.int .u64 10000), .lit (.int .u64 100000), .lit (.int .u64 1000000), .lit (.int .u64 10000000), .lit (.int .u64 100000000), .lit (.int .u64 1000000000), .lit (.int .u64 10000000000), .lit (.int .u64 100000000000), .lit (.int .u64 1000000000000), .lit (.int .u64 10000000000000), .lit (.int .u64 100000000000000), .lit (.int .u64 1000000000000000), .lit (.int .u64 10000000000000000), .lit (.int .u64 100000000000000000), .lit (.int .u64 1000000000000000000), .lit (.int .u64 10000000000000000000)]
def laid_unicode_utf8_acceptRanges {H : Type} : DataW H := .agg [.agg [.lit (.int .u8 128), .lit (.int .u8 191)], .agg [.lit (.int .u8 160), .lit (.int .u8 191)], .agg [.lit (.int .u8 128), .lit (.int .u8 159)], .agg [.lit (.int .u8 144), .lit (.int .u8 191)], .agg [.lit (.int .u8 128), .lit (.int .u8 143)], .agg [.lit (.int .u8 0), .lit (.int .u8 0)], .agg [.lit (.int .u8 0), .lit (.int .u8 0)], .agg [.lit (.int .u8 0), .lit (.int .u8 0)], .agg [.lit (.int .u8 0), .lit (.int .u8 0)], .agg [.lit (.int .u8 0), .lit (.int .u8 0)], .agg [.lit (.int .u8 0), .lit (.int .u8 0)], .agg [.lit (.int .u8 0), .lit (.int .u8 0)], .agg [.lit (.int .u8 0), .lit (.int .u8 0)], .agg [.lit (.int .u8 0), .lit (.int .u8 0)], .agg [.lit (.int .u8 0), .lit (.int .u8 0)], .agg [.lit (.int .u8 0), .lit (.int .u8 0)]]
def laid_gradine_line_names {H : Type} : DataW H := .agg [.lit (.string []), .lit (.string [105, 110, 112, 117, 116]), .lit (.string [99, 111, 110, 115, 116]), .lit (.string [110, 101, 103]), .lit (.string [97, 100, 100]), .lit (.string [115, 117, 98]), .lit (.string [109, 117, 108]), .lit (.string [100, 105, 118]), .lit (.string [115, 113, 114, 116]), .lit (.string [101, 120, 112]), .lit (.string [108, 111, 103])]
/-- One of Go's own tables, pinned by name: the form's constant. -/
def laid_unicode_utf8_first : DataW Unit := Go.Pinned.utf8First
def laid_gradine_kernel_factorials {H : Type} : DataW H := .agg [.lit (.int .i64 1), .lit (.int .i64 1), .lit (.int .i64 2), .lit (.int .i64 6), .lit (.int .i64 24), .lit (.int .i64 120), .lit (.int .i64 720), .lit (.int .i64 5040), .lit (.int .i64 40320), .lit (.int .i64 362880), .lit (.int .i64 3628800), .lit (.int .i64 39916800), .lit (.int .i64 479001600), .lit (.int .i64 6227020800)]

/-- 'gradinelaw15.LineTells': WHATEVER THE INPUT: true; the input reads as it did. -/
def lineTellsSpec : ChangeSpec := { name := "lineTells", fn := fun _ => fun
  | [d1, d2] => { results := [.lit (.bool true)], args := [d1, d2] }
  | _ => none }
def lineTellsRow : OpenClaim := { program := "ytibgpeaplmcogaagreatdoor", sum := "b91bc9c08401715085dced908af05cf35b0c8fade4ca345c2dfcbc824a0b567f", func := "gradine/gradinelaw15.LineTells", spec := "lineTells", inPlace := ["internal/bytealg.IndexByteString", "internal/bytealg.IndexString"], unfollowed := true, recurses := true, named := ["gradine/line.names", "unicode/utf8.first", "unicode/utf8.acceptRanges", "internal/strconv.uint64pow10", "math/bits.deBruijn32tab", "math/bits.deBruijn64tab", "internal/bytealg.MaxLen"], apart := false, laid := [("math/bits.deBruijn32tab", laid_math_bits_deBruijn32tab), ("math/bits.deBruijn64tab", laid_math_bits_deBruijn64tab), ("internal/strconv.uint64pow10", laid_internal_strconv_uint64pow10), ("unicode/utf8.acceptRanges", laid_unicode_utf8_acceptRanges), ("gradine/line.names", laid_gradine_line_names), ("unicode/utf8.first", laid_unicode_utf8_first)] }
def LineTellsSaid : Prop := lineTellsRow.holds Tryz.pinned (OpenSpec.ofChange lineTellsSpec)

/-- ITS FALSE NEIGHBOUR: 'it returns false'. Refute it at one input. -/
def lineTellsWrong : ChangeSpec := { name := "lineTells", fn := fun _ => fun
  | [d1, d2] => { results := [.lit (.bool false)], args := [d1, d2] }
  | _ => none }
def LineTellsWrongFalsely : Prop := lineTellsRow.holds Tryz.pinned (OpenSpec.ofChange lineTellsWrong)

/-- 'gradinelaw15.LineTrims': WHATEVER THE INPUT: true; the input reads as it did. -/
def lineTrimsSpec : ChangeSpec := { name := "lineTrims", fn := fun _ => fun
  | [d1, d2] => { results := [.lit (.bool true)], args := [d1, d2] }
  | _ => none }
def lineTrimsRow : OpenClaim := { program := "ytibgpeaplmcogaagreatdoor", sum := "b91bc9c08401715085dced908af05cf35b0c8fade4ca345c2dfcbc824a0b567f", func := "gradine/gradinelaw15.LineTrims", spec := "lineTrims", inPlace := ["internal/bytealg.IndexByteString", "internal/bytealg.IndexString"], unfollowed := true, recurses := true, named := ["gradine/line.names", "unicode/utf8.first", "unicode/utf8.acceptRanges", "internal/strconv.uint64pow10", "math/bits.deBruijn32tab", "math/bits.deBruijn64tab", "internal/bytealg.MaxLen"], apart := false, laid := [("math/bits.deBruijn32tab", laid_math_bits_deBruijn32tab), ("math/bits.deBruijn64tab", laid_math_bits_deBruijn64tab), ("internal/strconv.uint64pow10", laid_internal_strconv_uint64pow10), ("unicode/utf8.acceptRanges", laid_unicode_utf8_acceptRanges), ("gradine/line.names", laid_gradine_line_names), ("unicode/utf8.first", laid_unicode_utf8_first)] }
def LineTrimsSaid : Prop := lineTrimsRow.holds Tryz.pinned (OpenSpec.ofChange lineTrimsSpec)

/-- ITS FALSE NEIGHBOUR: 'it returns false'. Refute it at one input. -/
def lineTrimsWrong : ChangeSpec := { name := "lineTrims", fn := fun _ => fun
  | [d1, d2] => { results := [.lit (.bool false)], args := [d1, d2] }
  | _ => none }
def LineTrimsWrongFalsely : Prop := lineTrimsRow.holds Tryz.pinned (OpenSpec.ofChange lineTrimsWrong)

/-- 'gradinelaw15.LineAgain': WHATEVER THE INPUT: true; the input reads as it did. -/
def lineAgainSpec : ChangeSpec := { name := "lineAgain", fn := fun _ => fun
  | [d1, d2] => { results := [.lit (.bool true)], args := [d1, d2] }
  | _ => none }
def lineAgainRow : OpenClaim := { program := "ytibgpeaplmcogaagreatdoor", sum := "b91bc9c08401715085dced908af05cf35b0c8fade4ca345c2dfcbc824a0b567f", func := "gradine/gradinelaw15.LineAgain", spec := "lineAgain", inPlace := ["internal/bytealg.IndexByteString", "internal/bytealg.IndexString"], unfollowed := true, recurses := true, named := ["gradine/line.names", "unicode/utf8.first", "unicode/utf8.acceptRanges", "internal/strconv.uint64pow10", "math/bits.deBruijn32tab", "math/bits.deBruijn64tab", "internal/bytealg.MaxLen"], apart := false, laid := [("math/bits.deBruijn32tab", laid_math_bits_deBruijn32tab), ("math/bits.deBruijn64tab", laid_math_bits_deBruijn64tab), ("internal/strconv.uint64pow10", laid_internal_strconv_uint64pow10), ("unicode/utf8.acceptRanges", laid_unicode_utf8_acceptRanges), ("gradine/line.names", laid_gradine_line_names), ("unicode/utf8.first", laid_unicode_utf8_first)] }
def LineAgainSaid : Prop := lineAgainRow.holds Tryz.pinned (OpenSpec.ofChange lineAgainSpec)

/-- ITS FALSE NEIGHBOUR: 'it returns false'. Refute it at one input. -/
def lineAgainWrong : ChangeSpec := { name := "lineAgain", fn := fun _ => fun
  | [d1, d2] => { results := [.lit (.bool false)], args := [d1, d2] }
  | _ => none }
def LineAgainWrongFalsely : Prop := lineAgainRow.holds Tryz.pinned (OpenSpec.ofChange lineAgainWrong)

/-- 'gradinelaw16.EvalsExact': WHATEVER THE INPUT: true; the input reads as it did. -/
def evalsExactSpec : ChangeSpec := { name := "evalsExact", fn := fun _ => fun
  | [d1, d2, d3] => { results := [.lit (.bool true)], args := [d1, d2, d3] }
  | _ => none }
def evalsExactRow : OpenClaim := { program := "ytibgpeaplmcogaagreatdoor", sum := "b91bc9c08401715085dced908af05cf35b0c8fade4ca345c2dfcbc824a0b567f", func := "gradine/gradinelaw16.EvalsExact", spec := "evalsExact", recurses := true, named := ["gradine/kernel.factorials"], apart := false, laid := [("gradine/kernel.factorials", laid_gradine_kernel_factorials)] }
def EvalsExactSaid : Prop := evalsExactRow.holds Tryz.pinned (OpenSpec.ofChange evalsExactSpec)

/-- ITS FALSE NEIGHBOUR: 'it returns false'. Refute it at one input. -/
def evalsExactWrong : ChangeSpec := { name := "evalsExact", fn := fun _ => fun
  | [d1, d2, d3] => { results := [.lit (.bool false)], args := [d1, d2, d3] }
  | _ => none }
def EvalsExactWrongFalsely : Prop := evalsExactRow.holds Tryz.pinned (OpenSpec.ofChange evalsExactWrong)

/-- 'gradinelaw16.EvalsFloat': WHATEVER THE INPUT: true; the input reads as it did. -/
def evalsFloatSpec : ChangeSpec := { name := "evalsFloat", fn := fun _ => fun
  | [d1, d2] => { results := [.lit (.bool true)], args := [d1, d2] }
  | _ => none }
def evalsFloatRow : OpenClaim := { program := "ytibgpeaplmcogaagreatdoor", sum := "b91bc9c08401715085dced908af05cf35b0c8fade4ca345c2dfcbc824a0b567f", func := "gradine/gradinelaw16.EvalsFloat", spec := "evalsFloat", recurses := true, named := ["gradine/kernel.factorials"], apart := false, laid := [("gradine/kernel.factorials", laid_gradine_kernel_factorials)] }
def EvalsFloatSaid : Prop := evalsFloatRow.holds Tryz.pinned (OpenSpec.ofChange evalsFloatSpec)

/-- ITS FALSE NEIGHBOUR: 'it returns false'. Refute it at one input. -/
def evalsFloatWrong : ChangeSpec := { name := "evalsFloat", fn := fun _ => fun
  | [d1, d2] => { results := [.lit (.bool false)], args := [d1, d2] }
  | _ => none }
def EvalsFloatWrongFalsely : Prop := evalsFloatRow.holds Tryz.pinned (OpenSpec.ofChange evalsFloatWrong)

/-- 'gradinelaw16.EvalsTrims': WHATEVER THE INPUT: true; the input reads as it did. -/
def evalsTrimsSpec : ChangeSpec := { name := "evalsTrims", fn := fun _ => fun
  | [d1, d2, d3] => { results := [.lit (.bool true)], args := [d1, d2, d3] }
  | _ => none }
def evalsTrimsRow : OpenClaim := { program := "ytibgpeaplmcogaagreatdoor", sum := "b91bc9c08401715085dced908af05cf35b0c8fade4ca345c2dfcbc824a0b567f", func := "gradine/gradinelaw16.EvalsTrims", spec := "evalsTrims", unfollowed := true, recurses := true, named := ["gradine/kernel.factorials"], apart := false, laid := [("gradine/kernel.factorials", laid_gradine_kernel_factorials)] }
def EvalsTrimsSaid : Prop := evalsTrimsRow.holds Tryz.pinned (OpenSpec.ofChange evalsTrimsSpec)

/-- ITS FALSE NEIGHBOUR: 'it returns false'. Refute it at one input. -/
def evalsTrimsWrong : ChangeSpec := { name := "evalsTrims", fn := fun _ => fun
  | [d1, d2, d3] => { results := [.lit (.bool false)], args := [d1, d2, d3] }
  | _ => none }
def EvalsTrimsWrongFalsely : Prop := evalsTrimsRow.holds Tryz.pinned (OpenSpec.ofChange evalsTrimsWrong)

/- THE SECOND FORM. 'bulk': how many values and letters a reading holds, each counted each time it is reached (what is shared counts as often as it is met; a slice's spare places count too). A statement '..UptoSaid' is the law's where the arguments, and the package variables that the reading takes, are together of bulk at most 1048576: NARROWER than '..Said'. Prove '..Said' where nothing that the law and all that it calls make is longer than what came in: it says more and counts as full. Else prove '..UptoSaid'. A law counts once. -/
mutual
def uptoBulk {H : Type} : DataW H → Nat
  | .lit (.string bytes) => bytes.length + 1
  | .lit _ => 1
  | .nil => 1
  | .ptr d => uptoBulk d + 1
  | .slice elems spare => uptoBulkAll elems + uptoBulkAll spare + 1
  | .agg parts => uptoBulkAll parts + 1
  | .iface _ d => uptoBulk d + 1
  | .map entries => uptoBulkEntries entries + 1
  | .held _ => 1
def uptoBulkAll {H : Type} : List (DataW H) → Nat
  | [] => 0
  | d :: r => uptoBulk d + uptoBulkAll r
def uptoBulkEntries {H : Type} : List (Lit × DataW H) → Nat
  | [] => 0
  | x :: r => uptoBulkEntry x + uptoBulkEntries r
def uptoBulkEntry {H : Type} : Lit × DataW H → Nat
  | (.string bytes, d) => bytes.length + uptoBulk d + 1
  | (_, d) => uptoBulk d + 1
 end
def uptoSmall : (H : Type) → List (DataW H) → Bool := fun _ ds => decide (uptoBulkAll ds ≤ 1048576)
def OpenSpec.upto (s : _root_.Go.ChangeSpec) : _root_.Go.OpenSpec := { _root_.Go.OpenSpec.ofChange s with cond := some uptoSmall }

/-- 'gradinelaw15.LineTells', WHERE WHAT IT READS IS OF BULK AT MOST 1048576: true; the input reads as it did. -/
def lineTellsUptoRow : OpenClaim := { program := "ytibgpeaplmcogaagreatdoor", sum := "b91bc9c08401715085dced908af05cf35b0c8fade4ca345c2dfcbc824a0b567f", func := "gradine/gradinelaw15.LineTells", spec := "lineTells", inPlace := ["internal/bytealg.IndexByteString", "internal/bytealg.IndexString"], unfollowed := true, recurses := true, named := ["gradine/line.names", "unicode/utf8.first", "unicode/utf8.acceptRanges", "internal/strconv.uint64pow10", "math/bits.deBruijn32tab", "math/bits.deBruijn64tab", "internal/bytealg.MaxLen"], apart := false, laid := [("math/bits.deBruijn32tab", laid_math_bits_deBruijn32tab), ("math/bits.deBruijn64tab", laid_math_bits_deBruijn64tab), ("internal/strconv.uint64pow10", laid_internal_strconv_uint64pow10), ("unicode/utf8.acceptRanges", laid_unicode_utf8_acceptRanges), ("gradine/line.names", laid_gradine_line_names), ("unicode/utf8.first", laid_unicode_utf8_first)], narrowed := true }
def LineTellsUptoSaid : Prop := lineTellsUptoRow.holds Tryz.pinned (OpenSpec.upto lineTellsSpec)

/-- 'gradinelaw15.LineTrims', WHERE WHAT IT READS IS OF BULK AT MOST 1048576: true; the input reads as it did. -/
def lineTrimsUptoRow : OpenClaim := { program := "ytibgpeaplmcogaagreatdoor", sum := "b91bc9c08401715085dced908af05cf35b0c8fade4ca345c2dfcbc824a0b567f", func := "gradine/gradinelaw15.LineTrims", spec := "lineTrims", inPlace := ["internal/bytealg.IndexByteString", "internal/bytealg.IndexString"], unfollowed := true, recurses := true, named := ["gradine/line.names", "unicode/utf8.first", "unicode/utf8.acceptRanges", "internal/strconv.uint64pow10", "math/bits.deBruijn32tab", "math/bits.deBruijn64tab", "internal/bytealg.MaxLen"], apart := false, laid := [("math/bits.deBruijn32tab", laid_math_bits_deBruijn32tab), ("math/bits.deBruijn64tab", laid_math_bits_deBruijn64tab), ("internal/strconv.uint64pow10", laid_internal_strconv_uint64pow10), ("unicode/utf8.acceptRanges", laid_unicode_utf8_acceptRanges), ("gradine/line.names", laid_gradine_line_names), ("unicode/utf8.first", laid_unicode_utf8_first)], narrowed := true }
def LineTrimsUptoSaid : Prop := lineTrimsUptoRow.holds Tryz.pinned (OpenSpec.upto lineTrimsSpec)

/-- 'gradinelaw15.LineAgain', WHERE WHAT IT READS IS OF BULK AT MOST 1048576: true; the input reads as it did. -/
def lineAgainUptoRow : OpenClaim := { program := "ytibgpeaplmcogaagreatdoor", sum := "b91bc9c08401715085dced908af05cf35b0c8fade4ca345c2dfcbc824a0b567f", func := "gradine/gradinelaw15.LineAgain", spec := "lineAgain", inPlace := ["internal/bytealg.IndexByteString", "internal/bytealg.IndexString"], unfollowed := true, recurses := true, named := ["gradine/line.names", "unicode/utf8.first", "unicode/utf8.acceptRanges", "internal/strconv.uint64pow10", "math/bits.deBruijn32tab", "math/bits.deBruijn64tab", "internal/bytealg.MaxLen"], apart := false, laid := [("math/bits.deBruijn32tab", laid_math_bits_deBruijn32tab), ("math/bits.deBruijn64tab", laid_math_bits_deBruijn64tab), ("internal/strconv.uint64pow10", laid_internal_strconv_uint64pow10), ("unicode/utf8.acceptRanges", laid_unicode_utf8_acceptRanges), ("gradine/line.names", laid_gradine_line_names), ("unicode/utf8.first", laid_unicode_utf8_first)], narrowed := true }
def LineAgainUptoSaid : Prop := lineAgainUptoRow.holds Tryz.pinned (OpenSpec.upto lineAgainSpec)

/-- 'gradinelaw16.EvalsExact', WHERE WHAT IT READS IS OF BULK AT MOST 1048576: true; the input reads as it did. -/
def evalsExactUptoRow : OpenClaim := { program := "ytibgpeaplmcogaagreatdoor", sum := "b91bc9c08401715085dced908af05cf35b0c8fade4ca345c2dfcbc824a0b567f", func := "gradine/gradinelaw16.EvalsExact", spec := "evalsExact", recurses := true, named := ["gradine/kernel.factorials"], apart := false, laid := [("gradine/kernel.factorials", laid_gradine_kernel_factorials)], narrowed := true }
def EvalsExactUptoSaid : Prop := evalsExactUptoRow.holds Tryz.pinned (OpenSpec.upto evalsExactSpec)

/-- 'gradinelaw16.EvalsFloat', WHERE WHAT IT READS IS OF BULK AT MOST 1048576: true; the input reads as it did. -/
def evalsFloatUptoRow : OpenClaim := { program := "ytibgpeaplmcogaagreatdoor", sum := "b91bc9c08401715085dced908af05cf35b0c8fade4ca345c2dfcbc824a0b567f", func := "gradine/gradinelaw16.EvalsFloat", spec := "evalsFloat", recurses := true, named := ["gradine/kernel.factorials"], apart := false, laid := [("gradine/kernel.factorials", laid_gradine_kernel_factorials)], narrowed := true }
def EvalsFloatUptoSaid : Prop := evalsFloatUptoRow.holds Tryz.pinned (OpenSpec.upto evalsFloatSpec)

/-- 'gradinelaw16.EvalsTrims', WHERE WHAT IT READS IS OF BULK AT MOST 1048576: true; the input reads as it did. -/
def evalsTrimsUptoRow : OpenClaim := { program := "ytibgpeaplmcogaagreatdoor", sum := "b91bc9c08401715085dced908af05cf35b0c8fade4ca345c2dfcbc824a0b567f", func := "gradine/gradinelaw16.EvalsTrims", spec := "evalsTrims", unfollowed := true, recurses := true, named := ["gradine/kernel.factorials"], apart := false, laid := [("gradine/kernel.factorials", laid_gradine_kernel_factorials)], narrowed := true }
def EvalsTrimsUptoSaid : Prop := evalsTrimsUptoRow.holds Tryz.pinned (OpenSpec.upto evalsTrimsSpec)

end Rows
end Go.Proofs.YtibgpeaplmcogaaGreatDoor
