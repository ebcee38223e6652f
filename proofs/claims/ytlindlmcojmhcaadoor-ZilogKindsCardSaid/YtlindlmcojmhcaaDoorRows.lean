/-
  NARROWER THAN 'FOR EVERY INPUT', by the rows' own cells (each row's printed sentence says how): ZilogForms: laid · ZilogNames: laid · ZilogBoth: laid · ZilogApart: laid · ZilogKinds: laid.
  DERIVED. THE GIVEN ROWS OF THIS SEAT. 5 by the template 'for every input the law returns true; each argument reads behind the call as it read before'; 0 by the template 'total and deterministic' (their statements: YtlindlmcojmhcaaDoorTotals.lean).
  GIVEN WITH THE SEED: the statements are not yours to turn. If you find one false, say at which input.
  Laid BY PROGRAM, IN A SANDBOX (cutbox-rows.mjs): the forced cells as the released guide's own fill.sh prints them over the translation 6d06e4c30e6cb919… (all of the seat's roots in one cut). By AI agents, Wed Nov 11 2026. No macro, syntax, notation, axiom, sorry.
-/
import Derived.Test.YtlindlmcojmhcaaDoorChecked
import GoSem.PinnedTables
import GoSem.Claim
import GoSem.ClaimJoined
import GoSem.ClaimMapViews
import Derived.JoinedTies
import Derived.KernelRfl
namespace Go.Proofs.YtlindlmcojmhcaaDoor
/- THE CELL 'sum', in the pinned program and in every row, IS THE sha256 OF THE DUMP (.gsa) THAT YtlindlmcojmhcaaDoorProg.lean LOADS. Nothing in Lean hashes anything: it is a label: what it is worth is what the hold of that sum in a sandbox is worth. -/
noncomputable def Tryd.pinned : Pinned := { name := "ytlindlmcojmhcaadoor", sum := "6d06e4c30e6cb91921bf0cc477fb7a42074b97a8efe38ca4db9b5fbbaa1f16f6", checked := Tryd.checked }
namespace Rows
def none {H : Type} : Left H := { results := [], args := [] }

/- WHAT THE LISTED PACKAGE-LEVEL VARIABLES READ AS WHEN THE CALL BEGINS. Each datum BY PROGRAM (the guide's laid-datum.mjs) off the statement by which the dump's own 'gosem.cut.vars' lays the variable. In a bare row this is a premise. The card (YtlindlmcojmhcaaDoorCards.lean) ties it to the program's text. -/
def laid_math_bits_deBruijn32tab {H : Type} : DataW H := .agg [.lit (.int .u8 0), .lit (.int .u8 1), .lit (.int .u8 28), .lit (.int .u8 2), .lit (.int .u8 29), .lit (.int .u8 14), .lit (.int .u8 24), .lit (.int .u8 3), .lit (.int .u8 30), .lit (.int .u8 22), .lit (.int .u8 20), .lit (.int .u8 15), .lit (.int .u8 25), .lit (.int .u8 17), .lit (.int .u8 4), .lit (.int .u8 8), .lit (.int .u8 31), .lit (.int .u8 27), .lit (.int .u8 13), .lit (.int .u8 23), .lit (.int .u8 21), .lit (.int .u8 19), .lit (.int .u8 16), .lit (.int .u8 7), .lit (.int .u8 26), .lit (.int .u8 12), .lit (.int .u8 18), .lit (.int .u8 6), .lit (.int .u8 11), .lit (.int .u8 5), .lit (.int .u8 10), .lit (.int .u8 9)]
def laid_math_bits_deBruijn64tab {H : Type} : DataW H := .agg [.lit (.int .u8 0), .lit (.int .u8 1), .lit (.int .u8 56), .lit (.int .u8 2), .lit (.int .u8 57), .lit (.int .u8 49), .lit (.int .u8 28), .lit (.int .u8 3), .lit (.int .u8 61), .lit (.int .u8 58), .lit (.int .u8 42), .lit (.int .u8 50), .lit (.int .u8 38), .lit (.int .u8 29), .lit (.int .u8 17), .lit (.int .u8 4), .lit (.int .u8 62), .lit (.int .u8 47), .lit (.int .u8 59), .lit (.int .u8 36), .lit (.int .u8 45), .lit (.int .u8 43), .lit (.int .u8 51), .lit (.int .u8 22), .lit (.int .u8 53), .lit (.int .u8 39), .lit (.int .u8 33), .lit (.int .u8 30), .lit (.int .u8 24), .lit (.int .u8 18), .lit (.int .u8 12), .lit (.int .u8 5), .lit (.int .u8 63), .lit (.int .u8 55), .lit (.int .u8 48), .lit (.int .u8 27), .lit (.int .u8 60), .lit (.int .u8 41), .lit (.int .u8 37), .lit (.int .u8 16), .lit (.int .u8 46), .lit (.int .u8 35), .lit (.int .u8 44), .lit (.int .u8 21), .lit (.int .u8 52), .lit (.int .u8 32), .lit (.int .u8 23), .lit (.int .u8 11), .lit (.int .u8 54), .lit (.int .u8 26), .lit (.int .u8 40), .lit (.int .u8 15), .lit (.int .u8 34), .lit (.int .u8 20), .lit (.int .u8 31), .lit (.int .u8 10), .lit (.int .u8 25), .lit (.int .u8 14), .lit (.int .u8 19), .lit (.int .u8 9), .lit (.int .u8 13), .lit (.int .u8 8), .lit (.int .u8 7), .lit (.int .u8 6)]
def laid_internal_strconv_uint64pow10 {H : Type} : DataW H := .agg [.lit (.int .u64 1), .lit (.int .u64 10), .lit (.int .u64 100), .lit (.int .u64 1000), .lit (.int .u64 10000), .lit (.int .u64 100000), .lit (.int .u64 1000000), .lit (.int .u64 10000000), .lit (.int .u64 100000000), .lit (.int .u64 1000000000), .lit (.int .u64 10000000000), .lit (.int .u64 100000000000), .lit (.int .u64 1000000000000), .lit (.int .u64 10000000000000), .lit (.int .u64 100000000000000), .lit (.int .u64 1000000000000000), .lit (.int .u64 10000000000000000), .lit (.int .u64 100000000000000000), .lit (.int .u64 1000000000000000000), .lit (.int .u64 10000000000000000000)]
def laid_pidgin_isa80_registers {H : Type} : DataW H := .agg [.lit (.string [66]), .lit (.string [67]), .lit (.string [68]), .lit (.string [69]), .lit (.string [72]), .lit (.string [76]), .lit (.string [77]), .lit (.string [65])]
def laid_pidgin_isa80_pairs {H : Type} : DataW H := .agg [.lit (.string [66]), .lit (.string [68]), .lit (.string [72]), .lit (.string [83, 80])]
def laid_pidgin_isa80_conditions {H : Type} : DataW H := .agg [.lit (.string [78, 90]), .lit (.string [90]), .lit (.string [78, 67]), .lit (.string [67]), .lit (.string [80, 79]), .lit (.string [80, 69]), .lit (.string [80]), .lit (.string [77])]
def laid_pidgin_isa80_reckoners {H : Type} : DataW H := .agg [.lit (.string [65, 68, 68]), .lit (.string [65, 68, 67]), .lit (.string [83, 85, 66]), .lit (.string [83, 66, 66]), .lit (.string [65, 78, 65]), .lit (.string [88, 82, 65]), .lit (.string [79, 82, 65]), .lit (.string [67, 77, 80])]
def laid_pidgin_isa80_numbered {H : Type} : DataW H := .agg [.lit (.string [65, 68, 73]), .lit (.string [65, 67, 73]), .lit (.string [83, 85, 73]), .lit (.string [83, 66, 73]), .lit (.string [65, 78, 73]), .lit (.string [88, 82, 73]), .lit (.string [79, 82, 73]), .lit (.string [67, 80, 73])]
def laid_pidgin_isa80_turns {H : Type} : DataW H := .agg [.lit (.string [82, 76, 67]), .lit (.string [82, 82, 67]), .lit (.string [82, 65, 76]), .lit (.string [82, 65, 82]), .lit (.string [68, 65, 65]), .lit (.string [67, 77, 65]), .lit (.string [83, 84, 67]), .lit (.string [67, 77, 67])]
def laid_unicode_utf8_acceptRanges {H : Type} : DataW H := .agg [.agg [.lit (.int .u8 128), .lit (.int .u8 191)], .agg [.lit (.int .u8 160), .lit (.int .u8 191)], .agg [.lit (.int .u8 128), .lit (.int .u8 159)], .agg [.lit (.int .u8 144), .lit (.int .u8 191)], .agg [.lit (.int .u8 128), .lit (.int .u8 143)], .agg [.lit (.int .u8 0), .lit (.int .u8 0)], .agg [.lit (.int .u8 0), .lit (.int .u8 0)], .agg [.lit (.int .u8 0), .lit (.int .u8 0)], .agg [.lit (.int .u8 0), .lit (.int .u8 0)], .agg [.lit (.int .u8 0), .lit (.int .u8 0)], .agg [.lit (.int .u8 0), .lit (.int .u8 0)], .agg [.lit (.int .u8 0), .lit (.int .u8 0)], .agg [.lit (.int .u8 0), .lit (.int .u8 0)], .agg [.lit (.int .u8 0), .lit (.int .u8 0)], .agg [.lit (.int .u8 0), .lit (.int .u8 0)], .agg [.lit (.int .u8 0), .lit (.int .u8 0)]]
/-- One of Go's own tables, pinned by name: the form's constant. -/
def laid_unicode_utf8_first : DataW Unit := Go.Pinned.utf8First

/-- 'pidginlaw07.ZilogForms': WHATEVER THE INPUT: true; the input reads as it did. -/
def zilogFormsSpec : ChangeSpec := { name := "zilogForms", fn := fun _ => fun
  | [d] => { results := [.lit (.bool true)], args := [d] }
  | _ => none }
def zilogFormsRow : OpenClaim := { program := "ytlindlmcojmhcaadoor", sum := "6d06e4c30e6cb91921bf0cc477fb7a42074b97a8efe38ca4db9b5fbbaa1f16f6", func := "pidgin/pidginlaw07.ZilogForms", spec := "zilogForms", inPlace := ["internal/bytealg.IndexByteString", "internal/bytealg.IndexString"], unfollowed := true, recurses := true, named := ["pidgin/isa80.registers", "pidgin/isa80.reckoners", "pidgin/isa80.pairs", "pidgin/isa80.turns", "pidgin/isa80.conditions", "pidgin/isa80.numbered", "internal/strconv.uint64pow10", "math/bits.deBruijn32tab", "math/bits.deBruijn64tab", "unicode/utf8.first", "unicode/utf8.acceptRanges", "internal/bytealg.MaxLen"], apart := false, laid := [("math/bits.deBruijn32tab", laid_math_bits_deBruijn32tab), ("math/bits.deBruijn64tab", laid_math_bits_deBruijn64tab), ("internal/strconv.uint64pow10", laid_internal_strconv_uint64pow10), ("pidgin/isa80.registers", laid_pidgin_isa80_registers), ("pidgin/isa80.pairs", laid_pidgin_isa80_pairs), ("pidgin/isa80.conditions", laid_pidgin_isa80_conditions), ("pidgin/isa80.reckoners", laid_pidgin_isa80_reckoners), ("pidgin/isa80.numbered", laid_pidgin_isa80_numbered), ("pidgin/isa80.turns", laid_pidgin_isa80_turns), ("unicode/utf8.acceptRanges", laid_unicode_utf8_acceptRanges), ("unicode/utf8.first", laid_unicode_utf8_first)] }
def ZilogFormsSaid : Prop := zilogFormsRow.holds Tryd.pinned (OpenSpec.ofChange zilogFormsSpec)

/-- ITS FALSE NEIGHBOUR: 'it returns false'. Refute it at one input. -/
def zilogFormsWrong : ChangeSpec := { name := "zilogForms", fn := fun _ => fun
  | [d] => { results := [.lit (.bool false)], args := [d] }
  | _ => none }
def ZilogFormsWrongFalsely : Prop := zilogFormsRow.holds Tryd.pinned (OpenSpec.ofChange zilogFormsWrong)

/-- 'pidginlaw07.ZilogNames': WHATEVER THE INPUT: true; the input reads as it did. -/
def zilogNamesSpec : ChangeSpec := { name := "zilogNames", fn := fun _ => fun
  | [d1, d2] => { results := [.lit (.bool true)], args := [d1, d2] }
  | _ => none }
def zilogNamesRow : OpenClaim := { program := "ytlindlmcojmhcaadoor", sum := "6d06e4c30e6cb91921bf0cc477fb7a42074b97a8efe38ca4db9b5fbbaa1f16f6", func := "pidgin/pidginlaw07.ZilogNames", spec := "zilogNames", inPlace := ["internal/bytealg.IndexByteString", "internal/bytealg.IndexString"], unfollowed := true, recurses := true, named := ["pidgin/isa80.registers", "pidgin/isa80.reckoners", "pidgin/isa80.pairs", "pidgin/isa80.turns", "pidgin/isa80.conditions", "pidgin/isa80.numbered", "internal/strconv.uint64pow10", "math/bits.deBruijn32tab", "math/bits.deBruijn64tab", "unicode/utf8.first", "unicode/utf8.acceptRanges", "internal/bytealg.MaxLen"], apart := false, laid := [("math/bits.deBruijn32tab", laid_math_bits_deBruijn32tab), ("math/bits.deBruijn64tab", laid_math_bits_deBruijn64tab), ("internal/strconv.uint64pow10", laid_internal_strconv_uint64pow10), ("pidgin/isa80.registers", laid_pidgin_isa80_registers), ("pidgin/isa80.pairs", laid_pidgin_isa80_pairs), ("pidgin/isa80.conditions", laid_pidgin_isa80_conditions), ("pidgin/isa80.reckoners", laid_pidgin_isa80_reckoners), ("pidgin/isa80.numbered", laid_pidgin_isa80_numbered), ("pidgin/isa80.turns", laid_pidgin_isa80_turns), ("unicode/utf8.acceptRanges", laid_unicode_utf8_acceptRanges), ("unicode/utf8.first", laid_unicode_utf8_first)] }
def ZilogNamesSaid : Prop := zilogNamesRow.holds Tryd.pinned (OpenSpec.ofChange zilogNamesSpec)

/-- ITS FALSE NEIGHBOUR: 'it returns false'. Refute it at one input. -/
def zilogNamesWrong : ChangeSpec := { name := "zilogNames", fn := fun _ => fun
  | [d1, d2] => { results := [.lit (.bool false)], args := [d1, d2] }
  | _ => none }
def ZilogNamesWrongFalsely : Prop := zilogNamesRow.holds Tryd.pinned (OpenSpec.ofChange zilogNamesWrong)

/-- 'pidginlaw07.ZilogBoth': WHATEVER THE INPUT: true; the input reads as it did. -/
def zilogBothSpec : ChangeSpec := { name := "zilogBoth", fn := fun _ => fun
  | [d] => { results := [.lit (.bool true)], args := [d] }
  | _ => none }
def zilogBothRow : OpenClaim := { program := "ytlindlmcojmhcaadoor", sum := "6d06e4c30e6cb91921bf0cc477fb7a42074b97a8efe38ca4db9b5fbbaa1f16f6", func := "pidgin/pidginlaw07.ZilogBoth", spec := "zilogBoth", inPlace := ["internal/bytealg.IndexByteString", "internal/bytealg.IndexString"], unfollowed := true, recurses := true, named := ["pidgin/isa80.registers", "pidgin/isa80.reckoners", "pidgin/isa80.pairs", "pidgin/isa80.turns", "pidgin/isa80.conditions", "pidgin/isa80.numbered", "internal/strconv.uint64pow10", "math/bits.deBruijn32tab", "math/bits.deBruijn64tab", "unicode/utf8.first", "unicode/utf8.acceptRanges", "internal/bytealg.MaxLen"], apart := false, laid := [("math/bits.deBruijn32tab", laid_math_bits_deBruijn32tab), ("math/bits.deBruijn64tab", laid_math_bits_deBruijn64tab), ("internal/strconv.uint64pow10", laid_internal_strconv_uint64pow10), ("pidgin/isa80.registers", laid_pidgin_isa80_registers), ("pidgin/isa80.pairs", laid_pidgin_isa80_pairs), ("pidgin/isa80.conditions", laid_pidgin_isa80_conditions), ("pidgin/isa80.reckoners", laid_pidgin_isa80_reckoners), ("pidgin/isa80.numbered", laid_pidgin_isa80_numbered), ("pidgin/isa80.turns", laid_pidgin_isa80_turns), ("unicode/utf8.acceptRanges", laid_unicode_utf8_acceptRanges), ("unicode/utf8.first", laid_unicode_utf8_first)] }
def ZilogBothSaid : Prop := zilogBothRow.holds Tryd.pinned (OpenSpec.ofChange zilogBothSpec)

/-- ITS FALSE NEIGHBOUR: 'it returns false'. Refute it at one input. -/
def zilogBothWrong : ChangeSpec := { name := "zilogBoth", fn := fun _ => fun
  | [d] => { results := [.lit (.bool false)], args := [d] }
  | _ => none }
def ZilogBothWrongFalsely : Prop := zilogBothRow.holds Tryd.pinned (OpenSpec.ofChange zilogBothWrong)

/-- 'pidginlaw07.ZilogApart': WHATEVER THE INPUT: true; the input reads as it did. -/
def zilogApartSpec : ChangeSpec := { name := "zilogApart", fn := fun _ => fun
  | [d1, d2] => { results := [.lit (.bool true)], args := [d1, d2] }
  | _ => none }
def zilogApartRow : OpenClaim := { program := "ytlindlmcojmhcaadoor", sum := "6d06e4c30e6cb91921bf0cc477fb7a42074b97a8efe38ca4db9b5fbbaa1f16f6", func := "pidgin/pidginlaw07.ZilogApart", spec := "zilogApart", inPlace := ["internal/bytealg.IndexByteString", "internal/bytealg.IndexString"], unfollowed := true, recurses := true, named := ["pidgin/isa80.registers", "pidgin/isa80.reckoners", "pidgin/isa80.pairs", "pidgin/isa80.turns", "pidgin/isa80.conditions", "pidgin/isa80.numbered", "internal/strconv.uint64pow10", "math/bits.deBruijn32tab", "math/bits.deBruijn64tab", "unicode/utf8.first", "unicode/utf8.acceptRanges", "internal/bytealg.MaxLen"], apart := false, laid := [("math/bits.deBruijn32tab", laid_math_bits_deBruijn32tab), ("math/bits.deBruijn64tab", laid_math_bits_deBruijn64tab), ("internal/strconv.uint64pow10", laid_internal_strconv_uint64pow10), ("pidgin/isa80.registers", laid_pidgin_isa80_registers), ("pidgin/isa80.pairs", laid_pidgin_isa80_pairs), ("pidgin/isa80.conditions", laid_pidgin_isa80_conditions), ("pidgin/isa80.reckoners", laid_pidgin_isa80_reckoners), ("pidgin/isa80.numbered", laid_pidgin_isa80_numbered), ("pidgin/isa80.turns", laid_pidgin_isa80_turns), ("unicode/utf8.acceptRanges", laid_unicode_utf8_acceptRanges), ("unicode/utf8.first", laid_unicode_utf8_first)] }
def ZilogApartSaid : Prop := zilogApartRow.holds Tryd.pinned (OpenSpec.ofChange zilogApartSpec)

/-- ITS FALSE NEIGHBOUR: 'it returns false'. Refute it at one input. -/
def zilogApartWrong : ChangeSpec := { name := "zilogApart", fn := fun _ => fun
  | [d1, d2] => { results := [.lit (.bool false)], args := [d1, d2] }
  | _ => none }
def ZilogApartWrongFalsely : Prop := zilogApartRow.holds Tryd.pinned (OpenSpec.ofChange zilogApartWrong)

/-- 'pidginlaw07.ZilogKinds': WHATEVER THE INPUT: true; the input reads as it did. -/
def zilogKindsSpec : ChangeSpec := { name := "zilogKinds", fn := fun _ => fun
  | [d] => { results := [.lit (.bool true)], args := [d] }
  | _ => none }
def zilogKindsRow : OpenClaim := { program := "ytlindlmcojmhcaadoor", sum := "6d06e4c30e6cb91921bf0cc477fb7a42074b97a8efe38ca4db9b5fbbaa1f16f6", func := "pidgin/pidginlaw07.ZilogKinds", spec := "zilogKinds", inPlace := ["internal/bytealg.IndexByteString", "internal/bytealg.IndexString"], unfollowed := true, recurses := true, named := ["pidgin/isa80.registers", "pidgin/isa80.reckoners", "pidgin/isa80.pairs", "pidgin/isa80.turns", "pidgin/isa80.conditions", "pidgin/isa80.numbered", "internal/strconv.uint64pow10", "math/bits.deBruijn32tab", "math/bits.deBruijn64tab", "unicode/utf8.first", "unicode/utf8.acceptRanges", "internal/bytealg.MaxLen"], apart := false, laid := [("math/bits.deBruijn32tab", laid_math_bits_deBruijn32tab), ("math/bits.deBruijn64tab", laid_math_bits_deBruijn64tab), ("internal/strconv.uint64pow10", laid_internal_strconv_uint64pow10), ("pidgin/isa80.registers", laid_pidgin_isa80_registers), ("pidgin/isa80.pairs", laid_pidgin_isa80_pairs), ("pidgin/isa80.conditions", laid_pidgin_isa80_conditions), ("pidgin/isa80.reckoners", laid_pidgin_isa80_reckoners), ("pidgin/isa80.numbered", laid_pidgin_isa80_numbered), ("pidgin/isa80.turns", laid_pidgin_isa80_turns), ("unicode/utf8.acceptRanges", laid_unicode_utf8_acceptRanges), ("unicode/utf8.first", laid_unicode_utf8_first)] }
def ZilogKindsSaid : Prop := zilogKindsRow.holds Tryd.pinned (OpenSpec.ofChange zilogKindsSpec)

/-- ITS FALSE NEIGHBOUR: 'it returns false'. Refute it at one input. -/
def zilogKindsWrong : ChangeSpec := { name := "zilogKinds", fn := fun _ => fun
  | [d] => { results := [.lit (.bool false)], args := [d] }
  | _ => none }
def ZilogKindsWrongFalsely : Prop := zilogKindsRow.holds Tryd.pinned (OpenSpec.ofChange zilogKindsWrong)

/- THE SECOND FORM. 'bulk': how many values and letters a reading holds, each counted each time it is reached (what is shared counts as often as it is met; a slice's spare places count too). A statement '..UptoSaid' is the law's where the arguments, and the package variables that the reading takes, are together of bulk at most 1048576: NARROWER than '..Said'. Prove '..Said' where nothing that the law and all that it calls make is longer than what came in: it says more and counts as full. Else prove '..UptoSaid'. A law counts once. -/
mutual
def uptoBulk {H : Type} : DataW H → Nat
  | .lit (.string bytes) => bytes.length + 1
  | .lit _ => 1
  | .nil => 1
  | .ptr d => uptoBulk d + 1
  | .slice elems spare => uptoBulkAll elems + uptoBulkAll spare + 1
  | .agg parts => uptoBulkAll parts + 1
  | .iface _ d => uptoBulk d + 1
  | .map entries => uptoBulkEntries entries + 1
  | .held _ => 1
def uptoBulkAll {H : Type} : List (DataW H) → Nat
  | [] => 0
  | d :: r => uptoBulk d + uptoBulkAll r
def uptoBulkEntries {H : Type} : List (Lit × DataW H) → Nat
  | [] => 0
  | x :: r => uptoBulkEntry x + uptoBulkEntries r
def uptoBulkEntry {H : Type} : Lit × DataW H → Nat
  | (.string bytes, d) => bytes.length + uptoBulk d + 1
  | (_, d) => uptoBulk d + 1
 end
def uptoSmall : (H : Type) → List (DataW H) → Bool := fun _ ds => decide (uptoBulkAll ds ≤ 1048576)
def OpenSpec.upto (s : _root_.Go.ChangeSpec) : _root_.Go.OpenSpec := { _root_.Go.OpenSpec.ofChange s with cond := some uptoSmall }

/-- 'pidginlaw07.ZilogForms', WHERE WHAT IT READS IS OF BULK AT MOST 1048576: true; the input reads as it did. -/
def zilogFormsUptoRow : OpenClaim := { program := "ytlindlmcojmhcaadoor", sum := "6d06e4c30e6cb91921bf0cc477fb7a42074b97a8efe38ca4db9b5fbbaa1f16f6", func := "pidgin/pidginlaw07.ZilogForms", spec := "zilogForms", inPlace := ["internal/bytealg.IndexByteString", "internal/bytealg.IndexString"], unfollowed := true, recurses := true, named := ["pidgin/isa80.registers", "pidgin/isa80.reckoners", "pidgin/isa80.pairs", "pidgin/isa80.turns", "pidgin/isa80.conditions", "pidgin/isa80.numbered", "internal/strconv.uint64pow10", "math/bits.deBruijn32tab", "math/bits.deBruijn64tab", "unicode/utf8.first", "unicode/utf8.acceptRanges", "internal/bytealg.MaxLen"], apart := false, laid := [("math/bits.deBruijn32tab", laid_math_bits_deBruijn32tab), ("math/bits.deBruijn64tab", laid_math_bits_deBruijn64tab), ("internal/strconv.uint64pow10", laid_internal_strconv_uint64pow10), ("pidgin/isa80.registers", laid_pidgin_isa80_registers), ("pidgin/isa80.pairs", laid_pidgin_isa80_pairs), ("pidgin/isa80.conditions", laid_pidgin_isa80_conditions), ("pidgin/isa80.reckoners", laid_pidgin_isa80_reckoners), ("pidgin/isa80.numbered", laid_pidgin_isa80_numbered), ("pidgin/isa80.turns", laid_pidgin_isa80_turns), ("unicode/utf8.acceptRanges", laid_unicode_utf8_acceptRanges), ("unicode/utf8.first", laid_unicode_utf8_first)], narrowed := true }
def ZilogFormsUptoSaid : Prop := zilogFormsUptoRow.holds Tryd.pinned (OpenSpec.upto zilogFormsSpec)

/-- 'pidginlaw07.ZilogNames', WHERE WHAT IT READS IS OF BULK AT MOST 1048576: true; the input reads as it did. -/
def zilogNamesUptoRow : OpenClaim := { program := "ytlindlmcojmhcaadoor", sum := "6d06e4c30e6cb91921bf0cc477fb7a42074b97a8efe38ca4db9b5fbbaa1f16f6", func := "pidgin/pidginlaw07.ZilogNames", spec := "zilogNames", inPlace := ["internal/bytealg.IndexByteString", "internal/bytealg.IndexString"], unfollowed := true, recurses := true, named := ["pidgin/isa80.registers", "pidgin/isa80.reckoners", "pidgin/isa80.pairs", "pidgin/isa80.turns", "pidgin/isa80.conditions", "pidgin/isa80.numbered", "internal/strconv.uint64pow10", "math/bits.deBruijn32tab", "math/bits.deBruijn64tab", "unicode/utf8.first", "unicode/utf8.acceptRanges", "internal/bytealg.MaxLen"], apart := false, laid := [("math/bits.deBruijn32tab", laid_math_bits_deBruijn32tab), ("math/bits.deBruijn64tab", laid_math_bits_deBruijn64tab), ("internal/strconv.uint64pow10", laid_internal_strconv_uint64pow10), ("pidgin/isa80.registers", laid_pidgin_isa80_registers), ("pidgin/isa80.pairs", laid_pidgin_isa80_pairs), ("pidgin/isa80.conditions", laid_pidgin_isa80_conditions), ("pidgin/isa80.reckoners", laid_pidgin_isa80_reckoners), ("pidgin/isa80.numbered", laid_pidgin_isa80_numbered), ("pidgin/isa80.turns", laid_pidgin_isa80_turns), ("unicode/utf8.acceptRanges", laid_unicode_utf8_acceptRanges), ("unicode/utf8.first", laid_unicode_utf8_first)], narrowed := true }
def ZilogNamesUptoSaid : Prop := zilogNamesUptoRow.holds Tryd.pinned (OpenSpec.upto zilogNamesSpec)

/-- 'pidginlaw07.ZilogBoth', WHERE WHAT IT READS IS OF BULK AT MOST 1048576: true; the input reads as it did. -/
def zilogBothUptoRow : OpenClaim := { program := "ytlindlmcojmhcaadoor", sum := "6d06e4c30e6cb91921bf0cc477fb7a42074b97a8efe38ca4db9b5fbbaa1f16f6", func := "pidgin/pidginlaw07.ZilogBoth", spec := "zilogBoth", inPlace := ["internal/bytealg.IndexByteString", "internal/bytealg.IndexString"], unfollowed := true, recurses := true, named := ["pidgin/isa80.registers", "pidgin/isa80.reckoners", "pidgin/isa80.pairs", "pidgin/isa80.turns", "pidgin/isa80.conditions", "pidgin/isa80.numbered", "internal/strconv.uint64pow10", "math/bits.deBruijn32tab", "math/bits.deBruijn64tab", "unicode/utf8.first", "unicode/utf8.acceptRanges", "internal/bytealg.MaxLen"], apart := false, laid := [("math/bits.deBruijn32tab", laid_math_bits_deBruijn32tab), ("math/bits.deBruijn64tab", laid_math_bits_deBruijn64tab), ("internal/strconv.uint64pow10", laid_internal_strconv_uint64pow10), ("pidgin/isa80.registers", laid_pidgin_isa80_registers), ("pidgin/isa80.pairs", laid_pidgin_isa80_pairs), ("pidgin/isa80.conditions", laid_pidgin_isa80_conditions), ("pidgin/isa80.reckoners", laid_pidgin_isa80_reckoners), ("pidgin/isa80.numbered", laid_pidgin_isa80_numbered), ("pidgin/isa80.turns", laid_pidgin_isa80_turns), ("unicode/utf8.acceptRanges", laid_unicode_utf8_acceptRanges), ("unicode/utf8.first", laid_unicode_utf8_first)], narrowed := true }
def ZilogBothUptoSaid : Prop := zilogBothUptoRow.holds Tryd.pinned (OpenSpec.upto zilogBothSpec)

/-- 'pidginlaw07.ZilogApart', WHERE WHAT IT READS IS OF BULK AT MOST 1048576: true; the input reads as it did. -/
def zilogApartUptoRow : OpenClaim := { program := "ytlindlmcojmhcaadoor", sum := "6d06e4c30e6cb91921bf0cc477fb7a42074b97a8efe38ca4db9b5fbbaa1f16f6", func := "pidgin/pidginlaw07.ZilogApart", spec := "zilogApart", inPlace := ["internal/bytealg.IndexByteString", "internal/bytealg.IndexString"], unfollowed := true, recurses := true, named := ["pidgin/isa80.registers", "pidgin/isa80.reckoners", "pidgin/isa80.pairs", "pidgin/isa80.turns", "pidgin/isa80.conditions", "pidgin/isa80.numbered", "internal/strconv.uint64pow10", "math/bits.deBruijn32tab", "math/bits.deBruijn64tab", "unicode/utf8.first", "unicode/utf8.acceptRanges", "internal/bytealg.MaxLen"], apart := false, laid := [("math/bits.deBruijn32tab", laid_math_bits_deBruijn32tab), ("math/bits.deBruijn64tab", laid_math_bits_deBruijn64tab), ("internal/strconv.uint64pow10", laid_internal_strconv_uint64pow10), ("pidgin/isa80.registers", laid_pidgin_isa80_registers), ("pidgin/isa80.pairs", laid_pidgin_isa80_pairs), ("pidgin/isa80.conditions", laid_pidgin_isa80_conditions), ("pidgin/isa80.reckoners", laid_pidgin_isa80_reckoners), ("pidgin/isa80.numbered", laid_pidgin_isa80_numbered), ("pidgin/isa80.turns", laid_pidgin_isa80_turns), ("unicode/utf8.acceptRanges", laid_unicode_utf8_acceptRanges), ("unicode/utf8.first", laid_unicode_utf8_first)], narrowed := true }
def ZilogApartUptoSaid : Prop := zilogApartUptoRow.holds Tryd.pinned (OpenSpec.upto zilogApartSpec)

/-- 'pidginlaw07.ZilogKinds', WHERE WHAT IT READS IS OF BULK AT MOST 1048576: true; the input reads as it did. -/
def zilogKindsUptoRow : OpenClaim := { program := "ytlindlmcojmhcaadoor", sum := "6d06e4c30e6cb91921bf0cc477fb7a42074b97a8efe38ca4db9b5fbbaa1f16f6", func := "pidgin/pidginlaw07.ZilogKinds", spec := "zilogKinds", inPlace := ["internal/bytealg.IndexByteString", "internal/bytealg.IndexString"], unfollowed := true, recurses := true, named := ["pidgin/isa80.registers", "pidgin/isa80.reckoners", "pidgin/isa80.pairs", "pidgin/isa80.turns", "pidgin/isa80.conditions", "pidgin/isa80.numbered", "internal/strconv.uint64pow10", "math/bits.deBruijn32tab", "math/bits.deBruijn64tab", "unicode/utf8.first", "unicode/utf8.acceptRanges", "internal/bytealg.MaxLen"], apart := false, laid := [("math/bits.deBruijn32tab", laid_math_bits_deBruijn32tab), ("math/bits.deBruijn64tab", laid_math_bits_deBruijn64tab), ("internal/strconv.uint64pow10", laid_internal_strconv_uint64pow10), ("pidgin/isa80.registers", laid_pidgin_isa80_registers), ("pidgin/isa80.pairs", laid_pidgin_isa80_pairs), ("pidgin/isa80.conditions", laid_pidgin_isa80_conditions), ("pidgin/isa80.reckoners", laid_pidgin_isa80_reckoners), ("pidgin/isa80.numbered", laid_pidgin_isa80_numbered), ("pidgin/isa80.turns", laid_pidgin_isa80_turns), ("unicode/utf8.acceptRanges", laid_unicode_utf8_acceptRanges), ("unicode/utf8.first", laid_unicode_utf8_first)], narrowed := true }
def ZilogKindsUptoSaid : Prop := zilogKindsUptoRow.holds Tryd.pinned (OpenSpec.upto zilogKindsSpec)

end Rows
end Go.Proofs.YtlindlmcojmhcaaDoor
