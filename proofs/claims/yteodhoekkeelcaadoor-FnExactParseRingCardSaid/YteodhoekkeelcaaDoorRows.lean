/-
  NARROWER THAN 'FOR EVERY INPUT', by the rows' own cells (each row's printed sentence says how): FnExactParseRing: laid · FnExactTwoLast: laid · FnExactGreatestPower: laid · FnExactBinaryOf: laid · FnExactChainOf: laid · FnExactCirclesLeaving: laid · FnExactNextLeaving: laid · FnExactCirclesWithLast: laid · FnExactSumOfLast: laid.
  DERIVED. THE GIVEN ROWS OF THIS SEAT. 9 by the template 'for every input the law returns true; each argument reads behind the call as it read before'; 0 by the template 'total and deterministic' (their statements: YteodhoekkeelcaaDoorTotals.lean).
  GIVEN WITH THE SEED: the statements are not yours to turn. If you find one false, say at which input.
  Laid BY PROGRAM, IN A SANDBOX (cutbox-rows.mjs): the forced cells as the released guide's own fill.sh prints them over the translation 8c5aff2287fe5826… (all of the seat's roots in one cut). By AI agents, Wed Nov 11 2026. No macro, syntax, notation, axiom, sorry.
-/
import Derived.Test.YteodhoekkeelcaaDoorChecked
import GoSem.PinnedTables
import GoSem.Claim
import GoSem.ClaimJoined
import GoSem.ClaimMapViews
import Derived.JoinedTies
import Derived.KernelRfl
namespace Go.Proofs.YteodhoekkeelcaaDoor
/- THE CELL 'sum', in the pinned program and in every row, IS THE sha256 OF THE DUMP (.gsa) THAT YteodhoekkeelcaaDoorProg.lean LOADS. Nothing in Lean hashes anything: it is a label: what it is worth is what the hold of that sum in a sandbox is worth. -/
noncomputable def Tryd.pinned : Pinned := { name := "yteodhoekkeelcaadoor", sum := "8c5aff2287fe5826419ddc2013dcb8b48b8ba8f4aaabd60df3262c9bad222df8", checked := Tryd.checked }
namespace Rows
def none {H : Type} : Left H := { results := [], args := [] }

/- WHAT THE LISTED PACKAGE-LEVEL VARIABLES READ AS WHEN THE CALL BEGINS. Each datum BY PROGRAM (the guide's laid-datum.mjs) off the statement by which the dump's own 'gosem.cut.vars' lays the variable. In a bare row this is a premise. The card (YteodhoekkeelcaaDoorCards.lean) ties it to the program's text. -/
def laid_math_bits_deBruijn32tab {H : Type} : DataW H := .agg [.lit (.int .u8 0), .lit (.int .u8 1), .lit (.int .u8 28), .lit (.int .u8 2), .lit (.int .u8 29), .lit (.int .u8 14), .lit (.int .u8 24), .lit (.int .u8 3), .lit (.int .u8 30), .lit (.int .u8 22), .lit (.int .u8 20), .lit (.int .u8 15), .lit (.int .u8 25), .lit (.int .u8 17), .lit (.int .u8 4), .lit (.int .u8 8), .lit (.int .u8 31), .lit (.int .u8 27), .lit (.int .u8 13), .lit (.int .u8 23), .lit (.int .u8 21), .lit (.int .u8 19), .lit (.int .u8 16), .lit (.int .u8 7), .lit (.int .u8 26), .lit (.int .u8 12), .lit (.int .u8 18), .lit (.int .u8 6), .lit (.int .u8 11), .lit (.int .u8 5), .lit (.int .u8 10), .lit (.int .u8 9)]
def laid_math_bits_deBruijn64tab {H : Type} : DataW H := .agg [.lit (.int .u8 0), .lit (.int .u8 1), .lit (.int .u8 56), .lit (.int .u8 2), .lit (.int .u8 57), .lit (.int .u8 49), .lit (.int .u8 28), .lit (.int .u8 3), .lit (.int .u8 61), .lit (.int .u8 58), .lit (.int .u8 42), .lit (.int .u8 50), .lit (.int .u8 38), .lit (.int .u8 29), .lit (.int .u8 17), .lit (.int .u8 4), .lit (.int .u8 62), .lit (.int .u8 47), .lit (.int .u8 59), .lit (.int .u8 36), .lit (.int .u8 45), .lit (.int .u8 43), .lit (.int .u8 51), .lit (.int .u8 22), .lit (.int .u8 53), .lit (.int .u8 39), .lit (.int .u8 33), .lit (.int .u8 30), .lit (.int .u8 24), .lit (.int .u8 18), .lit (.int .u8 12), .lit (.int .u8 5), .lit (.int .u8 63), .lit (.int .u8 55), .lit (.int .u8 48), .lit (.int .u8 27), .lit (.int .u8 60), .lit (.int .u8 41), .lit (.int .u8 37), .lit (.int .u8 16), .lit (.int .u8 46), .lit (.int .u8 35), .lit (.int .u8 44), .lit (.int .u8 21), .lit (.int .u8 52), .lit (.int .u8 32), .lit (.int .u8 23), .lit (.int .u8 11), .lit (.int .u8 54), .lit (.int .u8 26), .lit (.int .u8 40), .lit (.int .u8 15), .lit (.int .u8 34), .lit (.int .u8 20), .lit (.int .u8 31), .lit (.int .u8 10), .lit (.int .u8 25), .lit (.int .u8 14), .lit (.int .u8 19), .lit (.int .u8 9), .lit (.int .u8 13), .lit (.int .u8 8), .lit (.int .u8 7), .lit (.int .u8 6)]
def laid_internal_strconv_uint64pow10 {H : Type} : DataW H := .agg [.lit (.int .u64 1), .lit (.int .u64 10), .lit (.int .u64 100), .lit (.int .u64 1000), .lit (.int .u64 10000), .lit (.int .u64 100000), .lit (.int .u64 1000000), .lit (.int .u64 10000000), .lit (.int .u64 100000000), .lit (.int .u64 1000000000), .lit (.int .u64 10000000000), .lit (.int .u64 100000000000), .lit (.int .u64 1000000000000), .lit (.int .u64 10000000000000), .lit (.int .u64 100000000000000), .lit (.int .u64 1000000000000000), .lit (.int .u64 10000000000000000), .lit (.int .u64 100000000000000000), .lit (.int .u64 1000000000000000000), .lit (.int .u64 10000000000000000000)]
def laid_unicode_utf8_acceptRanges {H : Type} : DataW H := .agg [.agg [.lit (.int .u8 128), .lit (.int .u8 191)], .agg [.lit (.int .u8 160), .lit (.int .u8 191)], .agg [.lit (.int .u8 128), .lit (.int .u8 159)], .agg [.lit (.int .u8 144), .lit (.int .u8 191)], .agg [.lit (.int .u8 128), .lit (.int .u8 143)], .agg [.lit (.int .u8 0), .lit (.int .u8 0)], .agg [.lit (.int .u8 0), .lit (.int .u8 0)], .agg [.lit (.int .u8 0), .lit (.int .u8 0)], .agg [.lit (.int .u8 0), .lit (.int .u8 0)], .agg [.lit (.int .u8 0), .lit (.int .u8 0)], .agg [.lit (.int .u8 0), .lit (.int .u8 0)], .agg [.lit (.int .u8 0), .lit (.int .u8 0)], .agg [.lit (.int .u8 0), .lit (.int .u8 0)], .agg [.lit (.int .u8 0), .lit (.int .u8 0)], .agg [.lit (.int .u8 0), .lit (.int .u8 0)], .agg [.lit (.int .u8 0), .lit (.int .u8 0)]]
def laid_strconv_ErrRange {H : Type} : DataW H := .iface "*errors.errorString" (.ptr (.agg [.lit (.string [118, 97, 108, 117, 101, 32, 111, 117, 116, 32, 111, 102, 32, 114, 97, 110, 103, 101])]))
def laid_strconv_ErrSyntax {H : Type} : DataW H := .iface "*errors.errorString" (.ptr (.agg [.lit (.string [105, 110, 118, 97, 108, 105, 100, 32, 115, 121, 110, 116, 97, 120])]))
/-- One of Go's own tables, pinned by name: the form's constant. -/
def laid_unicode_utf8_first : DataW Unit := Go.Pinned.utf8First
def laid_loop_example_g01295_impl_powersOfTwo {H : Type} : DataW H := .agg [.lit (.int .i64 1), .lit (.int .i64 2), .lit (.int .i64 4), .lit (.int .i64 8), .lit (.int .i64 16), .lit (.int .i64 32), .lit (.int .i64 64), .lit (.int .i64 128), .lit (.int .i64 256), .lit (.int .i64 512), .lit (.int .i64 1024), .lit (.int .i64 2048), .lit (.int .i64 4096), .lit (.int .i64 8192), .lit (.int .i64 16384), .lit (.int .i64 32768), .lit (.int .i64 65536), .lit (.int .i64 131072), .lit (.int .i64 262144), .lit (.int .i64 524288), .lit (.int .i64 1048576), .lit (.int .i64 2097152), .lit (.int .i64 4194304), .lit (.int .i64 8388608), .lit (.int .i64 16777216), .lit (.int .i64 33554432), .lit (.int .i64 67108864), .lit (.int .i64 134217728), .lit (.int .i64 268435456), .lit (.int .i64 536870912), .lit (.int .i64 1073741824), .lit (.int .i64 2147483648), .lit (.int .i64 4294967296), .lit (.int .i64 8589934592), .lit (.int .i64 17179869184), .lit (.int .i64 34359738368), .lit (.int .i64 68719476736), .lit (.int .i64 137438953472), .lit (.int .i64 274877906944), .lit (.int .i64 549755813888)]

/-- 'laws.FnExactParseRing': WHATEVER THE INPUT: true; the input reads as it did. -/
def fnExactParseRingSpec : ChangeSpec := { name := "fnExactParseRing", fn := fun _ => fun
  | [d] => { results := [.lit (.bool true)], args := [d] }
  | _ => none }
def fnExactParseRingRow : OpenClaim := { program := "yteodhoekkeelcaadoor", sum := "8c5aff2287fe5826419ddc2013dcb8b48b8ba8f4aaabd60df3262c9bad222df8", func := "loop.example/g01295/laws.FnExactParseRing", spec := "fnExactParseRing", inPlace := ["internal/bytealg.IndexByteString", "internal/bytealg.IndexString", "internal/bytealg.CountString"], recurses := true, named := ["internal/bytealg.MaxLen", "strconv.ErrSyntax", "strconv.ErrRange", "internal/strconv.uint64pow10", "math/bits.deBruijn32tab", "math/bits.deBruijn64tab", "unicode/utf8.first", "unicode/utf8.acceptRanges"], apart := false, laid := [("math/bits.deBruijn32tab", laid_math_bits_deBruijn32tab), ("math/bits.deBruijn64tab", laid_math_bits_deBruijn64tab), ("internal/strconv.uint64pow10", laid_internal_strconv_uint64pow10), ("unicode/utf8.acceptRanges", laid_unicode_utf8_acceptRanges), ("strconv.ErrRange", laid_strconv_ErrRange), ("strconv.ErrSyntax", laid_strconv_ErrSyntax), ("unicode/utf8.first", laid_unicode_utf8_first)] }
def FnExactParseRingSaid : Prop := fnExactParseRingRow.holds Tryd.pinned (OpenSpec.ofChange fnExactParseRingSpec)

/-- ITS FALSE NEIGHBOUR: 'it returns false'. Refute it at one input. -/
def fnExactParseRingWrong : ChangeSpec := { name := "fnExactParseRing", fn := fun _ => fun
  | [d] => { results := [.lit (.bool false)], args := [d] }
  | _ => none }
def FnExactParseRingWrongFalsely : Prop := fnExactParseRingRow.holds Tryd.pinned (OpenSpec.ofChange fnExactParseRingWrong)

/-- 'laws.FnExactTwoLast': WHATEVER THE INPUT: true; the input reads as it did. -/
def fnExactTwoLastSpec : ChangeSpec := { name := "fnExactTwoLast", vars := ["loop.example/g01295/impl.powersOfTwo"], fn := fun _ => fun
  | [d, g1] => { results := [.lit (.bool true)], args := [d], vars := [g1] }
  | _ => none }
def fnExactTwoLastRow : OpenClaim := { program := "yteodhoekkeelcaadoor", sum := "8c5aff2287fe5826419ddc2013dcb8b48b8ba8f4aaabd60df3262c9bad222df8", func := "loop.example/g01295/laws.FnExactTwoLast", spec := "fnExactTwoLast", named := ["loop.example/g01295/impl.powersOfTwo"], apart := false, laid := [("loop.example/g01295/impl.powersOfTwo", laid_loop_example_g01295_impl_powersOfTwo)] }
def FnExactTwoLastSaid : Prop := fnExactTwoLastRow.holds Tryd.pinned (OpenSpec.ofChange fnExactTwoLastSpec)

/-- ITS FALSE NEIGHBOUR: 'it returns false'. Refute it at one input. -/
def fnExactTwoLastWrong : ChangeSpec := { name := "fnExactTwoLast", vars := ["loop.example/g01295/impl.powersOfTwo"], fn := fun _ => fun
  | [d, g1] => { results := [.lit (.bool false)], args := [d], vars := [g1] }
  | _ => none }
def FnExactTwoLastWrongFalsely : Prop := fnExactTwoLastRow.holds Tryd.pinned (OpenSpec.ofChange fnExactTwoLastWrong)

/-- 'laws.FnExactGreatestPower': WHATEVER THE INPUT: true; the input reads as it did. -/
def fnExactGreatestPowerSpec : ChangeSpec := { name := "fnExactGreatestPower", vars := ["loop.example/g01295/impl.powersOfTwo"], fn := fun _ => fun
  | [d, g1] => { results := [.lit (.bool true)], args := [d], vars := [g1] }
  | _ => none }
def fnExactGreatestPowerRow : OpenClaim := { program := "yteodhoekkeelcaadoor", sum := "8c5aff2287fe5826419ddc2013dcb8b48b8ba8f4aaabd60df3262c9bad222df8", func := "loop.example/g01295/laws.FnExactGreatestPower", spec := "fnExactGreatestPower", named := ["loop.example/g01295/impl.powersOfTwo"], apart := false, laid := [("loop.example/g01295/impl.powersOfTwo", laid_loop_example_g01295_impl_powersOfTwo)] }
def FnExactGreatestPowerSaid : Prop := fnExactGreatestPowerRow.holds Tryd.pinned (OpenSpec.ofChange fnExactGreatestPowerSpec)

/-- ITS FALSE NEIGHBOUR: 'it returns false'. Refute it at one input. -/
def fnExactGreatestPowerWrong : ChangeSpec := { name := "fnExactGreatestPower", vars := ["loop.example/g01295/impl.powersOfTwo"], fn := fun _ => fun
  | [d, g1] => { results := [.lit (.bool false)], args := [d], vars := [g1] }
  | _ => none }
def FnExactGreatestPowerWrongFalsely : Prop := fnExactGreatestPowerRow.holds Tryd.pinned (OpenSpec.ofChange fnExactGreatestPowerWrong)

/-- 'laws.FnExactBinaryOf': WHATEVER THE INPUT: true; the input reads as it did. -/
def fnExactBinaryOfSpec : ChangeSpec := { name := "fnExactBinaryOf", fn := fun _ => fun
  | [d] => { results := [.lit (.bool true)], args := [d] }
  | _ => none }
def fnExactBinaryOfRow : OpenClaim := { program := "yteodhoekkeelcaadoor", sum := "8c5aff2287fe5826419ddc2013dcb8b48b8ba8f4aaabd60df3262c9bad222df8", func := "loop.example/g01295/laws.FnExactBinaryOf", spec := "fnExactBinaryOf", recurses := true, named := ["internal/strconv.uint64pow10", "math/bits.deBruijn32tab", "math/bits.deBruijn64tab"], apart := false, laid := [("math/bits.deBruijn32tab", laid_math_bits_deBruijn32tab), ("math/bits.deBruijn64tab", laid_math_bits_deBruijn64tab), ("internal/strconv.uint64pow10", laid_internal_strconv_uint64pow10)] }
def FnExactBinaryOfSaid : Prop := fnExactBinaryOfRow.holds Tryd.pinned (OpenSpec.ofChange fnExactBinaryOfSpec)

/-- ITS FALSE NEIGHBOUR: 'it returns false'. Refute it at one input. -/
def fnExactBinaryOfWrong : ChangeSpec := { name := "fnExactBinaryOf", fn := fun _ => fun
  | [d] => { results := [.lit (.bool false)], args := [d] }
  | _ => none }
def FnExactBinaryOfWrongFalsely : Prop := fnExactBinaryOfRow.holds Tryd.pinned (OpenSpec.ofChange fnExactBinaryOfWrong)

/-- 'laws.FnExactChainOf': WHATEVER THE INPUT: true; the input reads as it did. -/
def fnExactChainOfSpec : ChangeSpec := { name := "fnExactChainOf", vars := ["loop.example/g01295/impl.powersOfTwo"], fn := fun _ => fun
  | [d, g1] => { results := [.lit (.bool true)], args := [d], vars := [g1] }
  | _ => none }
def fnExactChainOfRow : OpenClaim := { program := "yteodhoekkeelcaadoor", sum := "8c5aff2287fe5826419ddc2013dcb8b48b8ba8f4aaabd60df3262c9bad222df8", func := "loop.example/g01295/laws.FnExactChainOf", spec := "fnExactChainOf", named := ["loop.example/g01295/impl.powersOfTwo"], apart := false, laid := [("loop.example/g01295/impl.powersOfTwo", laid_loop_example_g01295_impl_powersOfTwo)] }
def FnExactChainOfSaid : Prop := fnExactChainOfRow.holds Tryd.pinned (OpenSpec.ofChange fnExactChainOfSpec)

/-- ITS FALSE NEIGHBOUR: 'it returns false'. Refute it at one input. -/
def fnExactChainOfWrong : ChangeSpec := { name := "fnExactChainOf", vars := ["loop.example/g01295/impl.powersOfTwo"], fn := fun _ => fun
  | [d, g1] => { results := [.lit (.bool false)], args := [d], vars := [g1] }
  | _ => none }
def FnExactChainOfWrongFalsely : Prop := fnExactChainOfRow.holds Tryd.pinned (OpenSpec.ofChange fnExactChainOfWrong)

/-- 'laws.FnExactCirclesLeaving': WHATEVER THE INPUT: true; the input reads as it did. -/
def fnExactCirclesLeavingSpec : ChangeSpec := { name := "fnExactCirclesLeaving", vars := ["loop.example/g01295/impl.powersOfTwo"], fn := fun _ => fun
  | [d1, d2, g1] => { results := [.lit (.bool true)], args := [d1, d2], vars := [g1] }
  | _ => none }
def fnExactCirclesLeavingRow : OpenClaim := { program := "yteodhoekkeelcaadoor", sum := "8c5aff2287fe5826419ddc2013dcb8b48b8ba8f4aaabd60df3262c9bad222df8", func := "loop.example/g01295/laws.FnExactCirclesLeaving", spec := "fnExactCirclesLeaving", named := ["loop.example/g01295/impl.powersOfTwo"], apart := false, laid := [("loop.example/g01295/impl.powersOfTwo", laid_loop_example_g01295_impl_powersOfTwo)] }
def FnExactCirclesLeavingSaid : Prop := fnExactCirclesLeavingRow.holds Tryd.pinned (OpenSpec.ofChange fnExactCirclesLeavingSpec)

/-- ITS FALSE NEIGHBOUR: 'it returns false'. Refute it at one input. -/
def fnExactCirclesLeavingWrong : ChangeSpec := { name := "fnExactCirclesLeaving", vars := ["loop.example/g01295/impl.powersOfTwo"], fn := fun _ => fun
  | [d1, d2, g1] => { results := [.lit (.bool false)], args := [d1, d2], vars := [g1] }
  | _ => none }
def FnExactCirclesLeavingWrongFalsely : Prop := fnExactCirclesLeavingRow.holds Tryd.pinned (OpenSpec.ofChange fnExactCirclesLeavingWrong)

/-- 'laws.FnExactNextLeaving': WHATEVER THE INPUT: true; the input reads as it did. -/
def fnExactNextLeavingSpec : ChangeSpec := { name := "fnExactNextLeaving", vars := ["loop.example/g01295/impl.powersOfTwo"], fn := fun _ => fun
  | [d1, d2, g1] => { results := [.lit (.bool true)], args := [d1, d2], vars := [g1] }
  | _ => none }
def fnExactNextLeavingRow : OpenClaim := { program := "yteodhoekkeelcaadoor", sum := "8c5aff2287fe5826419ddc2013dcb8b48b8ba8f4aaabd60df3262c9bad222df8", func := "loop.example/g01295/laws.FnExactNextLeaving", spec := "fnExactNextLeaving", named := ["loop.example/g01295/impl.powersOfTwo"], apart := false, laid := [("loop.example/g01295/impl.powersOfTwo", laid_loop_example_g01295_impl_powersOfTwo)] }
def FnExactNextLeavingSaid : Prop := fnExactNextLeavingRow.holds Tryd.pinned (OpenSpec.ofChange fnExactNextLeavingSpec)

/-- ITS FALSE NEIGHBOUR: 'it returns false'. Refute it at one input. -/
def fnExactNextLeavingWrong : ChangeSpec := { name := "fnExactNextLeaving", vars := ["loop.example/g01295/impl.powersOfTwo"], fn := fun _ => fun
  | [d1, d2, g1] => { results := [.lit (.bool false)], args := [d1, d2], vars := [g1] }
  | _ => none }
def FnExactNextLeavingWrongFalsely : Prop := fnExactNextLeavingRow.holds Tryd.pinned (OpenSpec.ofChange fnExactNextLeavingWrong)

/-- 'laws.FnExactCirclesWithLast': WHATEVER THE INPUT: true; the input reads as it did. -/
def fnExactCirclesWithLastSpec : ChangeSpec := { name := "fnExactCirclesWithLast", vars := ["loop.example/g01295/impl.powersOfTwo"], fn := fun _ => fun
  | [d1, d2, g1] => { results := [.lit (.bool true)], args := [d1, d2], vars := [g1] }
  | _ => none }
def fnExactCirclesWithLastRow : OpenClaim := { program := "yteodhoekkeelcaadoor", sum := "8c5aff2287fe5826419ddc2013dcb8b48b8ba8f4aaabd60df3262c9bad222df8", func := "loop.example/g01295/laws.FnExactCirclesWithLast", spec := "fnExactCirclesWithLast", named := ["loop.example/g01295/impl.powersOfTwo"], apart := false, laid := [("loop.example/g01295/impl.powersOfTwo", laid_loop_example_g01295_impl_powersOfTwo)] }
def FnExactCirclesWithLastSaid : Prop := fnExactCirclesWithLastRow.holds Tryd.pinned (OpenSpec.ofChange fnExactCirclesWithLastSpec)

/-- ITS FALSE NEIGHBOUR: 'it returns false'. Refute it at one input. -/
def fnExactCirclesWithLastWrong : ChangeSpec := { name := "fnExactCirclesWithLast", vars := ["loop.example/g01295/impl.powersOfTwo"], fn := fun _ => fun
  | [d1, d2, g1] => { results := [.lit (.bool false)], args := [d1, d2], vars := [g1] }
  | _ => none }
def FnExactCirclesWithLastWrongFalsely : Prop := fnExactCirclesWithLastRow.holds Tryd.pinned (OpenSpec.ofChange fnExactCirclesWithLastWrong)

/-- 'laws.FnExactSumOfLast': WHATEVER THE INPUT: true; the input reads as it did. -/
def fnExactSumOfLastSpec : ChangeSpec := { name := "fnExactSumOfLast", vars := ["loop.example/g01295/impl.powersOfTwo"], fn := fun _ => fun
  | [d, g1] => { results := [.lit (.bool true)], args := [d], vars := [g1] }
  | _ => none }
def fnExactSumOfLastRow : OpenClaim := { program := "yteodhoekkeelcaadoor", sum := "8c5aff2287fe5826419ddc2013dcb8b48b8ba8f4aaabd60df3262c9bad222df8", func := "loop.example/g01295/laws.FnExactSumOfLast", spec := "fnExactSumOfLast", named := ["loop.example/g01295/impl.powersOfTwo"], apart := false, laid := [("loop.example/g01295/impl.powersOfTwo", laid_loop_example_g01295_impl_powersOfTwo)] }
def FnExactSumOfLastSaid : Prop := fnExactSumOfLastRow.holds Tryd.pinned (OpenSpec.ofChange fnExactSumOfLastSpec)

/-- ITS FALSE NEIGHBOUR: 'it returns false'. Refute it at one input. -/
def fnExactSumOfLastWrong : ChangeSpec := { name := "fnExactSumOfLast", vars := ["loop.example/g01295/impl.powersOfTwo"], fn := fun _ => fun
  | [d, g1] => { results := [.lit (.bool false)], args := [d], vars := [g1] }
  | _ => none }
def FnExactSumOfLastWrongFalsely : Prop := fnExactSumOfLastRow.holds Tryd.pinned (OpenSpec.ofChange fnExactSumOfLastWrong)

/- THE SECOND FORM. 'bulk': how many values and letters a reading holds, each counted each time it is reached (what is shared counts as often as it is met; a slice's spare places count too). A statement '..UptoSaid' is the law's where the arguments, and the package variables that the reading takes, are together of bulk at most 1048576: NARROWER than '..Said'. Prove '..Said' where nothing that the law and all that it calls make is longer than what came in: it says more and counts as full. Else prove '..UptoSaid'. A law counts once. -/
mutual
def uptoBulk {H : Type} : DataW H → Nat
  | .lit (.string bytes) => bytes.length + 1
  | .lit _ => 1
  | .nil => 1
  | .ptr d => uptoBulk d + 1
  | .slice elems spare => uptoBulkAll elems + uptoBulkAll spare + 1
  | .agg parts => uptoBulkAll parts + 1
  | .iface _ d => uptoBulk d + 1
  | .map entries => uptoBulkEntries entries + 1
  | .held _ => 1
def uptoBulkAll {H : Type} : List (DataW H) → Nat
  | [] => 0
  | d :: r => uptoBulk d + uptoBulkAll r
def uptoBulkEntries {H : Type} : List (Lit × DataW H) → Nat
  | [] => 0
  | x :: r => uptoBulkEntry x + uptoBulkEntries r
def uptoBulkEntry {H : Type} : Lit × DataW H → Nat
  | (.string bytes, d) => bytes.length + uptoBulk d + 1
  | (_, d) => uptoBulk d + 1
 end
def uptoSmall : (H : Type) → List (DataW H) → Bool := fun _ ds => decide (uptoBulkAll ds ≤ 1048576)
def OpenSpec.upto (s : _root_.Go.ChangeSpec) : _root_.Go.OpenSpec := { _root_.Go.OpenSpec.ofChange s with cond := some uptoSmall }

/-- 'laws.FnExactParseRing', WHERE WHAT IT READS IS OF BULK AT MOST 1048576: true; the input reads as it did. -/
def fnExactParseRingUptoRow : OpenClaim := { program := "yteodhoekkeelcaadoor", sum := "8c5aff2287fe5826419ddc2013dcb8b48b8ba8f4aaabd60df3262c9bad222df8", func := "loop.example/g01295/laws.FnExactParseRing", spec := "fnExactParseRing", inPlace := ["internal/bytealg.IndexByteString", "internal/bytealg.IndexString", "internal/bytealg.CountString"], recurses := true, named := ["internal/bytealg.MaxLen", "strconv.ErrSyntax", "strconv.ErrRange", "internal/strconv.uint64pow10", "math/bits.deBruijn32tab", "math/bits.deBruijn64tab", "unicode/utf8.first", "unicode/utf8.acceptRanges"], apart := false, laid := [("math/bits.deBruijn32tab", laid_math_bits_deBruijn32tab), ("math/bits.deBruijn64tab", laid_math_bits_deBruijn64tab), ("internal/strconv.uint64pow10", laid_internal_strconv_uint64pow10), ("unicode/utf8.acceptRanges", laid_unicode_utf8_acceptRanges), ("strconv.ErrRange", laid_strconv_ErrRange), ("strconv.ErrSyntax", laid_strconv_ErrSyntax), ("unicode/utf8.first", laid_unicode_utf8_first)], narrowed := true }
def FnExactParseRingUptoSaid : Prop := fnExactParseRingUptoRow.holds Tryd.pinned (OpenSpec.upto fnExactParseRingSpec)

/-- 'laws.FnExactTwoLast', WHERE WHAT IT READS IS OF BULK AT MOST 1048576: true; the input reads as it did. -/
def fnExactTwoLastUptoRow : OpenClaim := { program := "yteodhoekkeelcaadoor", sum := "8c5aff2287fe5826419ddc2013dcb8b48b8ba8f4aaabd60df3262c9bad222df8", func := "loop.example/g01295/laws.FnExactTwoLast", spec := "fnExactTwoLast", named := ["loop.example/g01295/impl.powersOfTwo"], apart := false, laid := [("loop.example/g01295/impl.powersOfTwo", laid_loop_example_g01295_impl_powersOfTwo)], narrowed := true }
def FnExactTwoLastUptoSaid : Prop := fnExactTwoLastUptoRow.holds Tryd.pinned (OpenSpec.upto fnExactTwoLastSpec)

/-- 'laws.FnExactGreatestPower', WHERE WHAT IT READS IS OF BULK AT MOST 1048576: true; the input reads as it did. -/
def fnExactGreatestPowerUptoRow : OpenClaim := { program := "yteodhoekkeelcaadoor", sum := "8c5aff2287fe5826419ddc2013dcb8b48b8ba8f4aaabd60df3262c9bad222df8", func := "loop.example/g01295/laws.FnExactGreatestPower", spec := "fnExactGreatestPower", named := ["loop.example/g01295/impl.powersOfTwo"], apart := false, laid := [("loop.example/g01295/impl.powersOfTwo", laid_loop_example_g01295_impl_powersOfTwo)], narrowed := true }
def FnExactGreatestPowerUptoSaid : Prop := fnExactGreatestPowerUptoRow.holds Tryd.pinned (OpenSpec.upto fnExactGreatestPowerSpec)

/-- 'laws.FnExactBinaryOf', WHERE WHAT IT READS IS OF BULK AT MOST 1048576: true; the input reads as it did. -/
def fnExactBinaryOfUptoRow : OpenClaim := { program := "yteodhoekkeelcaadoor", sum := "8c5aff2287fe5826419ddc2013dcb8b48b8ba8f4aaabd60df3262c9bad222df8", func := "loop.example/g01295/laws.FnExactBinaryOf", spec := "fnExactBinaryOf", recurses := true, named := ["internal/strconv.uint64pow10", "math/bits.deBruijn32tab", "math/bits.deBruijn64tab"], apart := false, laid := [("math/bits.deBruijn32tab", laid_math_bits_deBruijn32tab), ("math/bits.deBruijn64tab", laid_math_bits_deBruijn64tab), ("internal/strconv.uint64pow10", laid_internal_strconv_uint64pow10)], narrowed := true }
def FnExactBinaryOfUptoSaid : Prop := fnExactBinaryOfUptoRow.holds Tryd.pinned (OpenSpec.upto fnExactBinaryOfSpec)

/-- 'laws.FnExactChainOf', WHERE WHAT IT READS IS OF BULK AT MOST 1048576: true; the input reads as it did. -/
def fnExactChainOfUptoRow : OpenClaim := { program := "yteodhoekkeelcaadoor", sum := "8c5aff2287fe5826419ddc2013dcb8b48b8ba8f4aaabd60df3262c9bad222df8", func := "loop.example/g01295/laws.FnExactChainOf", spec := "fnExactChainOf", named := ["loop.example/g01295/impl.powersOfTwo"], apart := false, laid := [("loop.example/g01295/impl.powersOfTwo", laid_loop_example_g01295_impl_powersOfTwo)], narrowed := true }
def FnExactChainOfUptoSaid : Prop := fnExactChainOfUptoRow.holds Tryd.pinned (OpenSpec.upto fnExactChainOfSpec)

/-- 'laws.FnExactCirclesLeaving', WHERE WHAT IT READS IS OF BULK AT MOST 1048576: true; the input reads as it did. -/
def fnExactCirclesLeavingUptoRow : OpenClaim := { program := "yteodhoekkeelcaadoor", sum := "8c5aff2287fe5826419ddc2013dcb8b48b8ba8f4aaabd60df3262c9bad222df8", func := "loop.example/g01295/laws.FnExactCirclesLeaving", spec := "fnExactCirclesLeaving", named := ["loop.example/g01295/impl.powersOfTwo"], apart := false, laid := [("loop.example/g01295/impl.powersOfTwo", laid_loop_example_g01295_impl_powersOfTwo)], narrowed := true }
def FnExactCirclesLeavingUptoSaid : Prop := fnExactCirclesLeavingUptoRow.holds Tryd.pinned (OpenSpec.upto fnExactCirclesLeavingSpec)

/-- 'laws.FnExactNextLeaving', WHERE WHAT IT READS IS OF BULK AT MOST 1048576: true; the input reads as it did. -/
def fnExactNextLeavingUptoRow : OpenClaim := { program := "yteodhoekkeelcaadoor", sum := "8c5aff2287fe5826419ddc2013dcb8b48b8ba8f4aaabd60df3262c9bad222df8", func := "loop.example/g01295/laws.FnExactNextLeaving", spec := "fnExactNextLeaving", named := ["loop.example/g01295/impl.powersOfTwo"], apart := false, laid := [("loop.example/g01295/impl.powersOfTwo", laid_loop_example_g01295_impl_powersOfTwo)], narrowed := true }
def FnExactNextLeavingUptoSaid : Prop := fnExactNextLeavingUptoRow.holds Tryd.pinned (OpenSpec.upto fnExactNextLeavingSpec)

/-- 'laws.FnExactCirclesWithLast', WHERE WHAT IT READS IS OF BULK AT MOST 1048576: true; the input reads as it did. -/
def fnExactCirclesWithLastUptoRow : OpenClaim := { program := "yteodhoekkeelcaadoor", sum := "8c5aff2287fe5826419ddc2013dcb8b48b8ba8f4aaabd60df3262c9bad222df8", func := "loop.example/g01295/laws.FnExactCirclesWithLast", spec := "fnExactCirclesWithLast", named := ["loop.example/g01295/impl.powersOfTwo"], apart := false, laid := [("loop.example/g01295/impl.powersOfTwo", laid_loop_example_g01295_impl_powersOfTwo)], narrowed := true }
def FnExactCirclesWithLastUptoSaid : Prop := fnExactCirclesWithLastUptoRow.holds Tryd.pinned (OpenSpec.upto fnExactCirclesWithLastSpec)

/-- 'laws.FnExactSumOfLast', WHERE WHAT IT READS IS OF BULK AT MOST 1048576: true; the input reads as it did. -/
def fnExactSumOfLastUptoRow : OpenClaim := { program := "yteodhoekkeelcaadoor", sum := "8c5aff2287fe5826419ddc2013dcb8b48b8ba8f4aaabd60df3262c9bad222df8", func := "loop.example/g01295/laws.FnExactSumOfLast", spec := "fnExactSumOfLast", named := ["loop.example/g01295/impl.powersOfTwo"], apart := false, laid := [("loop.example/g01295/impl.powersOfTwo", laid_loop_example_g01295_impl_powersOfTwo)], narrowed := true }
def FnExactSumOfLastUptoSaid : Prop := fnExactSumOfLastUptoRow.holds Tryd.pinned (OpenSpec.upto fnExactSumOfLastSpec)

end Rows
end Go.Proofs.YteodhoekkeelcaaDoor
