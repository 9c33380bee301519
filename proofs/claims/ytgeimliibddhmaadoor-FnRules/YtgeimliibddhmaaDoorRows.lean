/-
  NARROWER THAN 'FOR EVERY INPUT', by the rows' own cells (each row's printed sentence says how): FnRules: laid · FnFires: laid · FnCounts: laid · FnExactCronOk: laid · FnExactParseCron: laid · FnExactCronText: laid · FnExactFires: laid · FnExactNextFire: laid · FnExactCountFires: laid.
  DERIVED. THE GIVEN ROWS OF THIS SEAT. 9 by the template 'for every input the law returns true; each argument reads behind the call as it read before'; 0 by the template 'total and deterministic' (their statements: YtgeimliibddhmaaDoorTotals.lean).
  GIVEN WITH THE SEED: the statements are not yours to turn. If you find one false, say at which input.
  Laid BY PROGRAM, IN A SANDBOX (cutbox-rows.mjs): the forced cells as the released guide's own fill.sh prints them over the translation efe1c9a959051a24… (all of the seat's roots in one cut). By AI agents, Wed Nov 11 2026. No macro, syntax, notation, axiom, sorry.
-/
import Derived.Test.YtgeimliibddhmaaDoorChecked
import GoSem.PinnedTables
import GoSem.Claim
import GoSem.ClaimJoined
import GoSem.ClaimMapViews
import Derived.JoinedTies
import Derived.KernelRfl
namespace Go.Proofs.YtgeimliibddhmaaDoor
/- THE CELL 'sum', in the pinned program and in every row, IS THE sha256 OF THE DUMP (.gsa) THAT YtgeimliibddhmaaDoorProg.lean LOADS. Nothing in Lean hashes anything: it is a label: what it is worth is what the hold of that sum in a sandbox is worth. -/
noncomputable def Tryd.pinned : Pinned := { name := "ytgeimliibddhmaadoor", sum := "efe1c9a959051a24b257f0c3363bb7d4546020c1adee2e607ceaef69726f0c0c", checked := Tryd.checked }
namespace Rows
def none {H : Type} : Left H := { results := [], args := [] }

/- WHAT THE LISTED PACKAGE-LEVEL VARIABLES READ AS WHEN THE CALL BEGINS. Each datum BY PROGRAM (the guide's laid-datum.mjs) off the statement by which the dump's own 'gosem.cut.vars' lays the variable. In a bare row this is a premise. The card (YtgeimliibddhmaaDoorCards.lean) ties it to the program's text. -/
def laid_math_bits_deBruijn32tab {H : Type} : DataW H := .agg [.lit (.int .u8 0), .lit (.int .u8 1), .lit (.int .u8 28), .lit (.int .u8 2), .lit (.int .u8 29), .lit (.int .u8 14), .lit (.int .u8 24), .lit (.int .u8 3), .lit (.int .u8 30), .lit (.int .u8 22), .lit (.int .u8 20), .lit (.int .u8 15), .lit (.int .u8 25), .lit (.int .u8 17), .lit (.int .u8 4), .lit (.int .u8 8), .lit (.int .u8 31), .lit (.int .u8 27), .lit (.int .u8 13), .lit (.int .u8 23), .lit (.int .u8 21), .lit (.int .u8 19), .lit (.int .u8 16), .lit (.int .u8 7), .lit (.int .u8 26), .lit (.int .u8 12), .lit (.int .u8 18), .lit (.int .u8 6), .lit (.int .u8 11), .lit (.int .u8 5), .lit (.int .u8 10), .lit (.int .u8 9)]
def laid_math_bits_deBruijn64tab {H : Type} : DataW H := .agg [.lit (.int .u8 0), .lit (.int .u8 1), .lit (.int .u8 56), .lit (.int .u8 2), .lit (.int .u8 57), .lit (.int .u8 49), .lit (.int .u8 28), .lit (.int .u8 3), .lit (.int .u8 61), .lit (.int .u8 58), .lit (.int .u8 42), .lit (.int .u8 50), .lit (.int .u8 38), .lit (.int .u8 29), .lit (.int .u8 17), .lit (.int .u8 4), .lit (.int .u8 62), .lit (.int .u8 47), .lit (.int .u8 59), .lit (.int .u8 36), .lit (.int .u8 45), .lit (.int .u8 43), .lit (.int .u8 51), .lit (.int .u8 22), .lit (.int .u8 53), .lit (.int .u8 39), .lit (.int .u8 33), .lit (.int .u8 30), .lit (.int .u8 24), .lit (.int .u8 18), .lit (.int .u8 12), .lit (.int .u8 5), .lit (.int .u8 63), .lit (.int .u8 55), .lit (.int .u8 48), .lit (.int .u8 27), .lit (.int .u8 60), .lit (.int .u8 41), .lit (.int .u8 37), .lit (.int .u8 16), .lit (.int .u8 46), .lit (.int .u8 35), .lit (.int .u8 44), .lit (.int .u8 21), .lit (.int .u8 52), .lit (.int .u8 32), .lit (.int .u8 23), .lit (.int .u8 11), .lit (.int .u8 54), .lit (.int .u8 26), .lit (.int .u8 40), .lit (.int .u8 15), .lit (.int .u8 34), .lit (.int .u8 20), .lit (.int .u8 31), .lit (.int .u8 10), .lit (.int .u8 25), .lit (.int .u8 14), .lit (.int .u8 19), .lit (.int .u8 9), .lit (.int .u8 13), .lit (.int .u8 8), .lit (.int .u8 7), .lit (.int .u8 6)]
def laid_internal_strconv_uint64pow10 {H : Type} : DataW H := .agg [.lit (.int .u64 1), .lit (.int .u64 10), .lit (.int .u64 100), .lit (.int .u64 1000), .lit (.int .u64 10000), .lit (.int .u64 100000), .lit (.int .u64 1000000), .lit (.int .u64 10000000), .lit (.int .u64 100000000), .lit (.int .u64 1000000000), .lit (.int .u64 10000000000), .lit (.int .u64 100000000000), .lit (.int .u64 1000000000000), .lit (.int .u64 10000000000000), .lit (.int .u64 100000000000000), .lit (.int .u64 1000000000000000), .lit (.int .u64 10000000000000000), .lit (.int .u64 100000000000000000), .lit (.int .u64 1000000000000000000), .lit (.int .u64 10000000000000000000)]
def laid_unicode_utf8_acceptRanges {H : Type} : DataW H := .agg [.agg [.lit (.int .u8 128), .lit (.int .u8 191)], .agg [.lit (.int .u8 160), .lit (.int .u8 191)], .agg [.lit (.int .u8 128), .lit (.int .u8 159)], .agg [.lit (.int .u8 144), .lit (.int .u8 191)], .agg [.lit (.int .u8 128), .lit (.int .u8 143)], .agg [.lit (.int .u8 0), .lit (.int .u8 0)], .agg [.lit (.int .u8 0), .lit (.int .u8 0)], .agg [.lit (.int .u8 0), .lit (.int .u8 0)], .agg [.lit (.int .u8 0), .lit (.int .u8 0)], .agg [.lit (.int .u8 0), .lit (.int .u8 0)], .agg [.lit (.int .u8 0), .lit (.int .u8 0)], .agg [.lit (.int .u8 0), .lit (.int .u8 0)], .agg [.lit (.int .u8 0), .lit (.int .u8 0)], .agg [.lit (.int .u8 0), .lit (.int .u8 0)], .agg [.lit (.int .u8 0), .lit (.int .u8 0)], .agg [.lit (.int .u8 0), .lit (.int .u8 0)]]
def laid_unicode_White_Space {H : Type} : DataW H := .ptr (.agg [.slice [.agg [.lit (.int .u16 9), .lit (.int .u16 13), .lit (.int .u16 1)], .agg [.lit (.int .u16 32), .lit (.int .u16 133), .lit (.int .u16 101)], .agg [.lit (.int .u16 160), .lit (.int .u16 5760), .lit (.int .u16 5600)], .agg [.lit (.int .u16 8192), .lit (.int .u16 8202), .lit (.int .u16 1)], .agg [.lit (.int .u16 8232), .lit (.int .u16 8233), .lit (.int .u16 1)], .agg [.lit (.int .u16 8239), .lit (.int .u16 8287), .lit (.int .u16 48)], .agg [.lit (.int .u16 12288), .lit (.int .u16 12288), .lit (.int .u16 1)]] [], .nil, .lit (.int .i64 2)])
def laid_strings_asciiSpace {H : Type} : DataW H := .agg [.lit (.int .u8 0), .lit (.int .u8 0), .lit (.int .u8 0), .lit (.int .u8 0), .lit (.int .u8 0), .lit (.int .u8 0), .lit (.int .u8 0), .lit (.int .u8 0), .lit (.int .u8 0), .lit (.int .u8 1), .lit (.int .u8 1), .lit (.int .u8 1), .lit (.int .u8 1), .lit (.int .u8 1), .lit (.int .u8 0), .lit (.int .u8 0), .lit (.int .u8 0), .lit (.int .u8 0), .lit (.int .u8 0), .lit (.int .u8 0), .lit (.int .u8 0), .lit (.int .u8 0), .lit (.int .u8 0), .lit (.int .u8 0), .lit (.int .u8 0), .lit (.int .u8 0), .lit (.int .u8 0), .lit (.int .u8 0), .lit (.int .u8 0), .lit (.int .u8 0), .lit (.int .u8 0), .lit (.int .u8 0), .lit (.int .u8 1), .lit (.int .u8 0), .lit (.int .u8 0), .lit (.int .u8 0), .lit (.int .u8 0), .lit (.int .u8 0), .lit (.int .u8 0), .lit (.int .u8 0), .lit (.int .u8 0), .lit (.int .u8 0), .lit (.int .u8 0), .lit (.int .u8 0), .lit (.int .u8 0), .lit (.int .u8 0), .lit (.int .u8 0), .lit (.int .u8 0), .lit (.int .u8 0), .lit (.int .u8 0), .lit (.int .u8 0), .lit (.int .u8 0), .lit (.int .u8 0), .lit (.int .u8 0), .lit (.int .u8 0), .lit (.int .u8 0), .lit (.int .u8 0), .lit (.int .u8 0), .lit (.int .u8 0), .lit (.int .u8 0), .lit (.int .u8 0), .lit (.int .u8 0), .lit (.int .u8 0), .lit (.int .u8 0), .lit (.int .u8 0), .lit (.int .u8 0), .lit (.int .u8 0), .lit (.int .u8 0), .lit (.int .u8 0), .lit (.int .u8 0), .lit (.int .u8 0), .lit (.int .u8 0), .lit (.int .u8 0), .lit (.int .u8 0), .lit (.int .u8 0), .lit (.int .u8 0), .lit (.int .u8 0), .lit (.int .u8 0), .lit (.int .u8 0), .lit (.int .u8 0), .lit (.int .u8 0), .lit (.int .u8 0), .lit (.int .u8 0), .lit (.int .u8 0), .lit (.int .u8 0), .lit (.int .u8 0), .lit (.int .u8 0), .lit (.int .u8 0), .lit (.int .u8 0), .lit (.int .u8 0), .lit (.int .u8 0), .lit (.int .u8 0), .lit (.int .u8 0), .lit (.int .u8 0), .lit (.int .u8 0), .lit (.int .u8 0), .lit (.int .u8 0), .lit (.int .u8 0), .lit (.int .u8 0), .lit (.int .u8 0), .lit (.int .u8 0), .lit (.int .u8 0), .lit (.int .u8 0), .lit (.int .u8 0), .lit (.int .u8 0), .lit (.int .u8 0), .lit (.int .u8 0), .lit (.int .u8 0), .lit (.int .u8 0), .lit (.int .u8 0), .lit (.int .u8 0), .lit (.int .u8 0), .lit (.int .u8 0), .lit (.int .u8 0), .lit (.int .u8 0), .lit (.int .u8 0), .lit (.int .u8 0), .lit (.int .u8 0), .lit (.int .u8 0), .lit (.int .u8 0), .lit (.int .u8 0), .lit (.int .u8 0), .lit (.int .u8 0), .lit (.int .u8 0), .lit (.int .u8 0), .lit (.int .u8 0), .lit (.int .u8 0), .lit (.int .u8 0), .lit (.int .u8 0), .lit (.int .u8 0), .lit (.int .u8 0), .lit (.int .u8 0), .lit (.int .u8 0), .lit (.int .u8 0), .lit (.int .u8 0), .lit (.int .u8 0), .lit (.int .u8 0), .lit (.int .u8 0), .lit (.int .u8 0), .lit (.int .u8 0), .lit (.int .u8 0), .lit (.int .u8 0), .lit (.int .u8 0), .lit (.int .u8 0), .lit (.int .u8 0), .lit (.int .u8 0), .lit (.int .u8 0), .lit (.int .u8 0), .lit (.int .u8 0), .lit (.int .u8 0), .lit (.int .u8 0), .lit (.int .u8 0), .lit (.int .u8 0), .lit (.int .u8 0), .lit (.int .u8 0), .lit (.int .u8 0), .lit (.int .u8 0), .lit (.int .u8 0), .lit (.int .u8 0), .lit (.int .u8 0), .lit (.int .u8 0), .lit (.int .u8 0), .lit (.int .u8 0), .lit (.int .u8 0), .lit (.int .u8 0), .lit (.int .u8 0), .lit (.int .u8 0), .lit (.int .u8 0), .lit (.int .u8 0), .lit (.int .u8 0), .lit (.int .u8 0), .lit (.int .u8 0), .lit (.int .u8 0), .lit (.int .u8 0), .lit (.int .u8 0), .lit (.int .u8 0), .lit (.int .u8 0), .lit (.int .u8 0), .lit (.int .u8 0), .lit (.int .u8 0), .lit (.int .u8 0), .lit (.int .u8 0), .lit (.int .u8 0), .lit (.int .u8 0), .lit (.int .u8 0), .lit (.int .u8 0), .lit (.int .u8 0), .lit (.int .u8 0), .lit (.int .u8 0), .lit (.int .u8 0), .lit (.int .u8 0), .lit (.int .u8 0), .lit (.int .u8 0), .lit (.int .u8 0), .lit (.int .u8 0), .lit (.int .u8 0), .lit (.int .u8 0), .lit (.int .u8 0), .lit (.int .u8 0), .lit (.int .u8 0), .lit (.int .u8 0), .lit (.int .u8 0), .lit (.int .u8 0), .lit (.int .u8 0), .lit (.int .u8 0), .lit (.int .u8 0), .lit (.int .u8 0), .lit (.int .u8 0), .lit (.int .u8 0), .lit (.int .u8 0), .lit (.int .u8 0), .lit (.int .u8 0), .lit (.int .u8 0), .lit (.int .u8 0), .lit (.int .u8 0), .lit (.int .u8 0), .lit (.int .u8 0), .lit (.int .u8 0), .lit (.int .u8 0), .lit (.int .u8 0), .lit (.int .u8 0), .lit (.int .u8 0), .lit (.int .u8 0), .lit (.int .u8 0), .lit (.int .u8 0), .lit (.int .u8 0), .lit (.int .u8 0), .lit (.int .u8 0), .lit (.int .u8 0), .lit (.int .u8 0), .lit (.int .u8 0), .lit (.int .u8 0), .lit (.int .u8 0), .lit (.int .u8 0), .lit (.int .u8 0), .lit (.int .u8 0), .lit (.int .u8 0), .lit (.int .u8 0), .lit (.int .u8 0), .lit (.int .u8 0), .lit (.int .u8 0), .lit (.int .u8 0), .lit (.int .u8 0), .lit (.int .u8 0), .lit (.int .u8 0), .lit (.int .u8 0), .lit (.int .u8 0), .lit (.int .u8 0), .lit (.int .u8 0), .lit (.int .u8 0), .lit (.int .u8 0), .lit (.int .u8 0), .lit (.int .u8 0), .lit (.int .u8 0), .lit (.int .u8 0), .lit (.int .u8 0)]
def laid_loop_example_g00188_impl_fieldReaches {H : Type} : DataW H := .agg [.agg [.lit (.int .i64 0), .lit (.int .i64 59)], .agg [.lit (.int .i64 0), .lit (.int .i64 23)], .agg [.lit (.int .i64 1), .lit (.int .i64 31)], .agg [.lit (.int .i64 1), .lit (.int .i64 12)], .agg [.lit (.int .i64 0), .lit (.int .i64 6)]]
/-- One of Go's own tables, pinned by name: the form's constant. -/
def laid_unicode_utf8_first : DataW Unit := Go.Pinned.utf8First

/-- 'laws.FnRules': WHATEVER THE INPUT: true; the input reads as it did. -/
def fnRulesSpec : ChangeSpec := { name := "fnRules", vars := ["loop.example/g00188/impl.fieldReaches"], fn := fun _ => fun
  | [d, g1] => { results := [.lit (.bool true)], args := [d], vars := [g1] }
  | _ => none }
def fnRulesRow : OpenClaim := { program := "ytgeimliibddhmaadoor", sum := "efe1c9a959051a24b257f0c3363bb7d4546020c1adee2e607ceaef69726f0c0c", func := "loop.example/g00188/laws.FnRules", spec := "fnRules", inPlace := ["internal/abi.NoEscape", "internal/bytealg.MakeNoZero", "internal/bytealg.CountString", "internal/bytealg.IndexByteString", "internal/bytealg.IndexString"], unfollowed := true, recurses := true, named := ["loop.example/g00188/impl.fieldReaches", "internal/strconv.uint64pow10", "math/bits.deBruijn32tab", "math/bits.deBruijn64tab", "strings.asciiSpace", "unicode.White_Space", "unicode/utf8.first", "unicode/utf8.acceptRanges", "internal/bytealg.MaxLen"], apart := false, laid := [("math/bits.deBruijn32tab", laid_math_bits_deBruijn32tab), ("math/bits.deBruijn64tab", laid_math_bits_deBruijn64tab), ("internal/strconv.uint64pow10", laid_internal_strconv_uint64pow10), ("unicode/utf8.acceptRanges", laid_unicode_utf8_acceptRanges), ("unicode.White_Space", laid_unicode_White_Space), ("strings.asciiSpace", laid_strings_asciiSpace), ("loop.example/g00188/impl.fieldReaches", laid_loop_example_g00188_impl_fieldReaches), ("unicode/utf8.first", laid_unicode_utf8_first)] }
def FnRulesSaid : Prop := fnRulesRow.holds Tryd.pinned (OpenSpec.ofChange fnRulesSpec)

/-- ITS FALSE NEIGHBOUR: 'it returns false'. Refute it at one input. -/
def fnRulesWrong : ChangeSpec := { name := "fnRules", vars := ["loop.example/g00188/impl.fieldReaches"], fn := fun _ => fun
  | [d, g1] => { results := [.lit (.bool false)], args := [d], vars := [g1] }
  | _ => none }
def FnRulesWrongFalsely : Prop := fnRulesRow.holds Tryd.pinned (OpenSpec.ofChange fnRulesWrong)

/-- 'laws.FnFires': WHATEVER THE INPUT: true; the input reads as it did. -/
def fnFiresSpec : ChangeSpec := { name := "fnFires", vars := ["loop.example/g00188/impl.fieldReaches"], fn := fun _ => fun
  | [d, g1] => { results := [.lit (.bool true)], args := [d], vars := [g1] }
  | _ => none }
def fnFiresRow : OpenClaim := { program := "ytgeimliibddhmaadoor", sum := "efe1c9a959051a24b257f0c3363bb7d4546020c1adee2e607ceaef69726f0c0c", func := "loop.example/g00188/laws.FnFires", spec := "fnFires", named := ["loop.example/g00188/impl.fieldReaches"], apart := false, laid := [("loop.example/g00188/impl.fieldReaches", laid_loop_example_g00188_impl_fieldReaches)] }
def FnFiresSaid : Prop := fnFiresRow.holds Tryd.pinned (OpenSpec.ofChange fnFiresSpec)

/-- ITS FALSE NEIGHBOUR: 'it returns false'. Refute it at one input. -/
def fnFiresWrong : ChangeSpec := { name := "fnFires", vars := ["loop.example/g00188/impl.fieldReaches"], fn := fun _ => fun
  | [d, g1] => { results := [.lit (.bool false)], args := [d], vars := [g1] }
  | _ => none }
def FnFiresWrongFalsely : Prop := fnFiresRow.holds Tryd.pinned (OpenSpec.ofChange fnFiresWrong)

/-- 'laws.FnCounts': WHATEVER THE INPUT: true; the input reads as it did. -/
def fnCountsSpec : ChangeSpec := { name := "fnCounts", vars := ["loop.example/g00188/impl.fieldReaches"], fn := fun _ => fun
  | [d, g1] => { results := [.lit (.bool true)], args := [d], vars := [g1] }
  | _ => none }
def fnCountsRow : OpenClaim := { program := "ytgeimliibddhmaadoor", sum := "efe1c9a959051a24b257f0c3363bb7d4546020c1adee2e607ceaef69726f0c0c", func := "loop.example/g00188/laws.FnCounts", spec := "fnCounts", named := ["loop.example/g00188/impl.fieldReaches"], apart := false, laid := [("loop.example/g00188/impl.fieldReaches", laid_loop_example_g00188_impl_fieldReaches)] }
def FnCountsSaid : Prop := fnCountsRow.holds Tryd.pinned (OpenSpec.ofChange fnCountsSpec)

/-- ITS FALSE NEIGHBOUR: 'it returns false'. Refute it at one input. -/
def fnCountsWrong : ChangeSpec := { name := "fnCounts", vars := ["loop.example/g00188/impl.fieldReaches"], fn := fun _ => fun
  | [d, g1] => { results := [.lit (.bool false)], args := [d], vars := [g1] }
  | _ => none }
def FnCountsWrongFalsely : Prop := fnCountsRow.holds Tryd.pinned (OpenSpec.ofChange fnCountsWrong)

/-- 'laws.FnExactCronOk': WHATEVER THE INPUT: true; the input reads as it did. -/
def fnExactCronOkSpec : ChangeSpec := { name := "fnExactCronOk", vars := ["loop.example/g00188/impl.fieldReaches"], fn := fun _ => fun
  | [d, g1] => { results := [.lit (.bool true)], args := [d], vars := [g1] }
  | _ => none }
def fnExactCronOkRow : OpenClaim := { program := "ytgeimliibddhmaadoor", sum := "efe1c9a959051a24b257f0c3363bb7d4546020c1adee2e607ceaef69726f0c0c", func := "loop.example/g00188/laws.FnExactCronOk", spec := "fnExactCronOk", named := ["loop.example/g00188/impl.fieldReaches"], apart := false, laid := [("loop.example/g00188/impl.fieldReaches", laid_loop_example_g00188_impl_fieldReaches)] }
def FnExactCronOkSaid : Prop := fnExactCronOkRow.holds Tryd.pinned (OpenSpec.ofChange fnExactCronOkSpec)

/-- ITS FALSE NEIGHBOUR: 'it returns false'. Refute it at one input. -/
def fnExactCronOkWrong : ChangeSpec := { name := "fnExactCronOk", vars := ["loop.example/g00188/impl.fieldReaches"], fn := fun _ => fun
  | [d, g1] => { results := [.lit (.bool false)], args := [d], vars := [g1] }
  | _ => none }
def FnExactCronOkWrongFalsely : Prop := fnExactCronOkRow.holds Tryd.pinned (OpenSpec.ofChange fnExactCronOkWrong)

/-- 'laws.FnExactParseCron': WHATEVER THE INPUT: true; the input reads as it did. -/
def fnExactParseCronSpec : ChangeSpec := { name := "fnExactParseCron", vars := ["loop.example/g00188/impl.fieldReaches"], fn := fun _ => fun
  | [d, g1] => { results := [.lit (.bool true)], args := [d], vars := [g1] }
  | _ => none }
def fnExactParseCronRow : OpenClaim := { program := "ytgeimliibddhmaadoor", sum := "efe1c9a959051a24b257f0c3363bb7d4546020c1adee2e607ceaef69726f0c0c", func := "loop.example/g00188/laws.FnExactParseCron", spec := "fnExactParseCron", inPlace := ["internal/bytealg.CountString", "internal/bytealg.IndexByteString", "internal/bytealg.IndexString"], unfollowed := true, recurses := true, named := ["loop.example/g00188/impl.fieldReaches", "strings.asciiSpace", "unicode.White_Space", "unicode/utf8.first", "unicode/utf8.acceptRanges", "internal/bytealg.MaxLen"], apart := false, laid := [("unicode/utf8.acceptRanges", laid_unicode_utf8_acceptRanges), ("unicode.White_Space", laid_unicode_White_Space), ("strings.asciiSpace", laid_strings_asciiSpace), ("loop.example/g00188/impl.fieldReaches", laid_loop_example_g00188_impl_fieldReaches), ("unicode/utf8.first", laid_unicode_utf8_first)] }
def FnExactParseCronSaid : Prop := fnExactParseCronRow.holds Tryd.pinned (OpenSpec.ofChange fnExactParseCronSpec)

/-- ITS FALSE NEIGHBOUR: 'it returns false'. Refute it at one input. -/
def fnExactParseCronWrong : ChangeSpec := { name := "fnExactParseCron", vars := ["loop.example/g00188/impl.fieldReaches"], fn := fun _ => fun
  | [d, g1] => { results := [.lit (.bool false)], args := [d], vars := [g1] }
  | _ => none }
def FnExactParseCronWrongFalsely : Prop := fnExactParseCronRow.holds Tryd.pinned (OpenSpec.ofChange fnExactParseCronWrong)

/-- 'laws.FnExactCronText': WHATEVER THE INPUT: true; the input reads as it did. -/
def fnExactCronTextSpec : ChangeSpec := { name := "fnExactCronText", vars := ["loop.example/g00188/impl.fieldReaches"], fn := fun _ => fun
  | [d, g1] => { results := [.lit (.bool true)], args := [d], vars := [g1] }
  | _ => none }
def fnExactCronTextRow : OpenClaim := { program := "ytgeimliibddhmaadoor", sum := "efe1c9a959051a24b257f0c3363bb7d4546020c1adee2e607ceaef69726f0c0c", func := "loop.example/g00188/laws.FnExactCronText", spec := "fnExactCronText", inPlace := ["internal/abi.NoEscape", "internal/bytealg.MakeNoZero"], named := ["loop.example/g00188/impl.fieldReaches", "internal/strconv.uint64pow10", "math/bits.deBruijn32tab", "math/bits.deBruijn64tab"], apart := false, laid := [("math/bits.deBruijn32tab", laid_math_bits_deBruijn32tab), ("math/bits.deBruijn64tab", laid_math_bits_deBruijn64tab), ("internal/strconv.uint64pow10", laid_internal_strconv_uint64pow10), ("loop.example/g00188/impl.fieldReaches", laid_loop_example_g00188_impl_fieldReaches)] }
def FnExactCronTextSaid : Prop := fnExactCronTextRow.holds Tryd.pinned (OpenSpec.ofChange fnExactCronTextSpec)

/-- ITS FALSE NEIGHBOUR: 'it returns false'. Refute it at one input. -/
def fnExactCronTextWrong : ChangeSpec := { name := "fnExactCronText", vars := ["loop.example/g00188/impl.fieldReaches"], fn := fun _ => fun
  | [d, g1] => { results := [.lit (.bool false)], args := [d], vars := [g1] }
  | _ => none }
def FnExactCronTextWrongFalsely : Prop := fnExactCronTextRow.holds Tryd.pinned (OpenSpec.ofChange fnExactCronTextWrong)

/-- 'laws.FnExactFires': WHATEVER THE INPUT: true; the input reads as it did. -/
def fnExactFiresSpec : ChangeSpec := { name := "fnExactFires", vars := ["loop.example/g00188/impl.fieldReaches"], fn := fun _ => fun
  | [d1, d2, g1] => { results := [.lit (.bool true)], args := [d1, d2], vars := [g1] }
  | _ => none }
def fnExactFiresRow : OpenClaim := { program := "ytgeimliibddhmaadoor", sum := "efe1c9a959051a24b257f0c3363bb7d4546020c1adee2e607ceaef69726f0c0c", func := "loop.example/g00188/laws.FnExactFires", spec := "fnExactFires", named := ["loop.example/g00188/impl.fieldReaches"], apart := false, laid := [("loop.example/g00188/impl.fieldReaches", laid_loop_example_g00188_impl_fieldReaches)] }
def FnExactFiresSaid : Prop := fnExactFiresRow.holds Tryd.pinned (OpenSpec.ofChange fnExactFiresSpec)

/-- ITS FALSE NEIGHBOUR: 'it returns false'. Refute it at one input. -/
def fnExactFiresWrong : ChangeSpec := { name := "fnExactFires", vars := ["loop.example/g00188/impl.fieldReaches"], fn := fun _ => fun
  | [d1, d2, g1] => { results := [.lit (.bool false)], args := [d1, d2], vars := [g1] }
  | _ => none }
def FnExactFiresWrongFalsely : Prop := fnExactFiresRow.holds Tryd.pinned (OpenSpec.ofChange fnExactFiresWrong)

/-- 'laws.FnExactNextFire': WHATEVER THE INPUT: true; the input reads as it did. -/
def fnExactNextFireSpec : ChangeSpec := { name := "fnExactNextFire", vars := ["loop.example/g00188/impl.fieldReaches"], fn := fun _ => fun
  | [d1, d2, d3, g1] => { results := [.lit (.bool true)], args := [d1, d2, d3], vars := [g1] }
  | _ => none }
def fnExactNextFireRow : OpenClaim := { program := "ytgeimliibddhmaadoor", sum := "efe1c9a959051a24b257f0c3363bb7d4546020c1adee2e607ceaef69726f0c0c", func := "loop.example/g00188/laws.FnExactNextFire", spec := "fnExactNextFire", named := ["loop.example/g00188/impl.fieldReaches"], apart := false, laid := [("loop.example/g00188/impl.fieldReaches", laid_loop_example_g00188_impl_fieldReaches)] }
def FnExactNextFireSaid : Prop := fnExactNextFireRow.holds Tryd.pinned (OpenSpec.ofChange fnExactNextFireSpec)

/-- ITS FALSE NEIGHBOUR: 'it returns false'. Refute it at one input. -/
def fnExactNextFireWrong : ChangeSpec := { name := "fnExactNextFire", vars := ["loop.example/g00188/impl.fieldReaches"], fn := fun _ => fun
  | [d1, d2, d3, g1] => { results := [.lit (.bool false)], args := [d1, d2, d3], vars := [g1] }
  | _ => none }
def FnExactNextFireWrongFalsely : Prop := fnExactNextFireRow.holds Tryd.pinned (OpenSpec.ofChange fnExactNextFireWrong)

/-- 'laws.FnExactCountFires': WHATEVER THE INPUT: true; the input reads as it did. -/
def fnExactCountFiresSpec : ChangeSpec := { name := "fnExactCountFires", vars := ["loop.example/g00188/impl.fieldReaches"], fn := fun _ => fun
  | [d1, d2, d3, g1] => { results := [.lit (.bool true)], args := [d1, d2, d3], vars := [g1] }
  | _ => none }
def fnExactCountFiresRow : OpenClaim := { program := "ytgeimliibddhmaadoor", sum := "efe1c9a959051a24b257f0c3363bb7d4546020c1adee2e607ceaef69726f0c0c", func := "loop.example/g00188/laws.FnExactCountFires", spec := "fnExactCountFires", named := ["loop.example/g00188/impl.fieldReaches"], apart := false, laid := [("loop.example/g00188/impl.fieldReaches", laid_loop_example_g00188_impl_fieldReaches)] }
def FnExactCountFiresSaid : Prop := fnExactCountFiresRow.holds Tryd.pinned (OpenSpec.ofChange fnExactCountFiresSpec)

/-- ITS FALSE NEIGHBOUR: 'it returns false'. Refute it at one input. -/
def fnExactCountFiresWrong : ChangeSpec := { name := "fnExactCountFires", vars := ["loop.example/g00188/impl.fieldReaches"], fn := fun _ => fun
  | [d1, d2, d3, g1] => { results := [.lit (.bool false)], args := [d1, d2, d3], vars := [g1] }
  | _ => none }
def FnExactCountFiresWrongFalsely : Prop := fnExactCountFiresRow.holds Tryd.pinned (OpenSpec.ofChange fnExactCountFiresWrong)

/- THE SECOND FORM. 'bulk': how many values and letters a reading holds, each counted each time it is reached (what is shared counts as often as it is met; a slice's spare places count too). A statement '..UptoSaid' is the law's where the arguments, and the package variables that the reading takes, are together of bulk at most 1048576: NARROWER than '..Said'. Prove '..Said' where nothing that the law and all that it calls make is longer than what came in: it says more and counts as full. Else prove '..UptoSaid'. A law counts once. -/
mutual
def uptoBulk {H : Type} : DataW H → Nat
  | .lit (.string bytes) => bytes.length + 1
  | .lit _ => 1
  | .nil => 1
  | .ptr d => uptoBulk d + 1
  | .slice elems spare => uptoBulkAll elems + uptoBulkAll spare + 1
  | .agg parts => uptoBulkAll parts + 1
  | .iface _ d => uptoBulk d + 1
  | .map entries => uptoBulkEntries entries + 1
  | .held _ => 1
def uptoBulkAll {H : Type} : List (DataW H) → Nat
  | [] => 0
  | d :: r => uptoBulk d + uptoBulkAll r
def uptoBulkEntries {H : Type} : List (Lit × DataW H) → Nat
  | [] => 0
  | x :: r => uptoBulkEntry x + uptoBulkEntries r
def uptoBulkEntry {H : Type} : Lit × DataW H → Nat
  | (.string bytes, d) => bytes.length + uptoBulk d + 1
  | (_, d) => uptoBulk d + 1
 end
def uptoSmall : (H : Type) → List (DataW H) → Bool := fun _ ds => decide (uptoBulkAll ds ≤ 1048576)
def OpenSpec.upto (s : _root_.Go.ChangeSpec) : _root_.Go.OpenSpec := { _root_.Go.OpenSpec.ofChange s with cond := some uptoSmall }

/-- 'laws.FnRules', WHERE WHAT IT READS IS OF BULK AT MOST 1048576: true; the input reads as it did. -/
def fnRulesUptoRow : OpenClaim := { program := "ytgeimliibddhmaadoor", sum := "efe1c9a959051a24b257f0c3363bb7d4546020c1adee2e607ceaef69726f0c0c", func := "loop.example/g00188/laws.FnRules", spec := "fnRules", inPlace := ["internal/abi.NoEscape", "internal/bytealg.MakeNoZero", "internal/bytealg.CountString", "internal/bytealg.IndexByteString", "internal/bytealg.IndexString"], unfollowed := true, recurses := true, named := ["loop.example/g00188/impl.fieldReaches", "internal/strconv.uint64pow10", "math/bits.deBruijn32tab", "math/bits.deBruijn64tab", "strings.asciiSpace", "unicode.White_Space", "unicode/utf8.first", "unicode/utf8.acceptRanges", "internal/bytealg.MaxLen"], apart := false, laid := [("math/bits.deBruijn32tab", laid_math_bits_deBruijn32tab), ("math/bits.deBruijn64tab", laid_math_bits_deBruijn64tab), ("internal/strconv.uint64pow10", laid_internal_strconv_uint64pow10), ("unicode/utf8.acceptRanges", laid_unicode_utf8_acceptRanges), ("unicode.White_Space", laid_unicode_White_Space), ("strings.asciiSpace", laid_strings_asciiSpace), ("loop.example/g00188/impl.fieldReaches", laid_loop_example_g00188_impl_fieldReaches), ("unicode/utf8.first", laid_unicode_utf8_first)], narrowed := true }
def FnRulesUptoSaid : Prop := fnRulesUptoRow.holds Tryd.pinned (OpenSpec.upto fnRulesSpec)

/-- 'laws.FnFires', WHERE WHAT IT READS IS OF BULK AT MOST 1048576: true; the input reads as it did. -/
def fnFiresUptoRow : OpenClaim := { program := "ytgeimliibddhmaadoor", sum := "efe1c9a959051a24b257f0c3363bb7d4546020c1adee2e607ceaef69726f0c0c", func := "loop.example/g00188/laws.FnFires", spec := "fnFires", named := ["loop.example/g00188/impl.fieldReaches"], apart := false, laid := [("loop.example/g00188/impl.fieldReaches", laid_loop_example_g00188_impl_fieldReaches)], narrowed := true }
def FnFiresUptoSaid : Prop := fnFiresUptoRow.holds Tryd.pinned (OpenSpec.upto fnFiresSpec)

/-- 'laws.FnCounts', WHERE WHAT IT READS IS OF BULK AT MOST 1048576: true; the input reads as it did. -/
def fnCountsUptoRow : OpenClaim := { program := "ytgeimliibddhmaadoor", sum := "efe1c9a959051a24b257f0c3363bb7d4546020c1adee2e607ceaef69726f0c0c", func := "loop.example/g00188/laws.FnCounts", spec := "fnCounts", named := ["loop.example/g00188/impl.fieldReaches"], apart := false, laid := [("loop.example/g00188/impl.fieldReaches", laid_loop_example_g00188_impl_fieldReaches)], narrowed := true }
def FnCountsUptoSaid : Prop := fnCountsUptoRow.holds Tryd.pinned (OpenSpec.upto fnCountsSpec)

/-- 'laws.FnExactCronOk', WHERE WHAT IT READS IS OF BULK AT MOST 1048576: true; the input reads as it did. -/
def fnExactCronOkUptoRow : OpenClaim := { program := "ytgeimliibddhmaadoor", sum := "efe1c9a959051a24b257f0c3363bb7d4546020c1adee2e607ceaef69726f0c0c", func := "loop.example/g00188/laws.FnExactCronOk", spec := "fnExactCronOk", named := ["loop.example/g00188/impl.fieldReaches"], apart := false, laid := [("loop.example/g00188/impl.fieldReaches", laid_loop_example_g00188_impl_fieldReaches)], narrowed := true }
def FnExactCronOkUptoSaid : Prop := fnExactCronOkUptoRow.holds Tryd.pinned (OpenSpec.upto fnExactCronOkSpec)

/-- 'laws.FnExactParseCron', WHERE WHAT IT READS IS OF BULK AT MOST 1048576: true; the input reads as it did. -/
def fnExactParseCronUptoRow : OpenClaim := { program := "ytgeimliibddhmaadoor", sum := "efe1c9a959051a24b257f0c3363bb7d4546020c1adee2e607ceaef69726f0c0c", func := "loop.example/g00188/laws.FnExactParseCron", spec := "fnExactParseCron", inPlace := ["internal/bytealg.CountString", "internal/bytealg.IndexByteString", "internal/bytealg.IndexString"], unfollowed := true, recurses := true, named := ["loop.example/g00188/impl.fieldReaches", "strings.asciiSpace", "unicode.White_Space", "unicode/utf8.first", "unicode/utf8.acceptRanges", "internal/bytealg.MaxLen"], apart := false, laid := [("unicode/utf8.acceptRanges", laid_unicode_utf8_acceptRanges), ("unicode.White_Space", laid_unicode_White_Space), ("strings.asciiSpace", laid_strings_asciiSpace), ("loop.example/g00188/impl.fieldReaches", laid_loop_example_g00188_impl_fieldReaches), ("unicode/utf8.first", laid_unicode_utf8_first)], narrowed := true }
def FnExactParseCronUptoSaid : Prop := fnExactParseCronUptoRow.holds Tryd.pinned (OpenSpec.upto fnExactParseCronSpec)

/-- 'laws.FnExactCronText', WHERE WHAT IT READS IS OF BULK AT MOST 1048576: true; the input reads as it did. -/
def fnExactCronTextUptoRow : OpenClaim := { program := "ytgeimliibddhmaadoor", sum := "efe1c9a959051a24b257f0c3363bb7d4546020c1adee2e607ceaef69726f0c0c", func := "loop.example/g00188/laws.FnExactCronText", spec := "fnExactCronText", inPlace := ["internal/abi.NoEscape", "internal/bytealg.MakeNoZero"], named := ["loop.example/g00188/impl.fieldReaches", "internal/strconv.uint64pow10", "math/bits.deBruijn32tab", "math/bits.deBruijn64tab"], apart := false, laid := [("math/bits.deBruijn32tab", laid_math_bits_deBruijn32tab), ("math/bits.deBruijn64tab", laid_math_bits_deBruijn64tab), ("internal/strconv.uint64pow10", laid_internal_strconv_uint64pow10), ("loop.example/g00188/impl.fieldReaches", laid_loop_example_g00188_impl_fieldReaches)], narrowed := true }
def FnExactCronTextUptoSaid : Prop := fnExactCronTextUptoRow.holds Tryd.pinned (OpenSpec.upto fnExactCronTextSpec)

/-- 'laws.FnExactFires', WHERE WHAT IT READS IS OF BULK AT MOST 1048576: true; the input reads as it did. -/
def fnExactFiresUptoRow : OpenClaim := { program := "ytgeimliibddhmaadoor", sum := "efe1c9a959051a24b257f0c3363bb7d4546020c1adee2e607ceaef69726f0c0c", func := "loop.example/g00188/laws.FnExactFires", spec := "fnExactFires", named := ["loop.example/g00188/impl.fieldReaches"], apart := false, laid := [("loop.example/g00188/impl.fieldReaches", laid_loop_example_g00188_impl_fieldReaches)], narrowed := true }
def FnExactFiresUptoSaid : Prop := fnExactFiresUptoRow.holds Tryd.pinned (OpenSpec.upto fnExactFiresSpec)

/-- 'laws.FnExactNextFire', WHERE WHAT IT READS IS OF BULK AT MOST 1048576: true; the input reads as it did. -/
def fnExactNextFireUptoRow : OpenClaim := { program := "ytgeimliibddhmaadoor", sum := "efe1c9a959051a24b257f0c3363bb7d4546020c1adee2e607ceaef69726f0c0c", func := "loop.example/g00188/laws.FnExactNextFire", spec := "fnExactNextFire", named := ["loop.example/g00188/impl.fieldReaches"], apart := false, laid := [("loop.example/g00188/impl.fieldReaches", laid_loop_example_g00188_impl_fieldReaches)], narrowed := true }
def FnExactNextFireUptoSaid : Prop := fnExactNextFireUptoRow.holds Tryd.pinned (OpenSpec.upto fnExactNextFireSpec)

/-- 'laws.FnExactCountFires', WHERE WHAT IT READS IS OF BULK AT MOST 1048576: true; the input reads as it did. -/
def fnExactCountFiresUptoRow : OpenClaim := { program := "ytgeimliibddhmaadoor", sum := "efe1c9a959051a24b257f0c3363bb7d4546020c1adee2e607ceaef69726f0c0c", func := "loop.example/g00188/laws.FnExactCountFires", spec := "fnExactCountFires", named := ["loop.example/g00188/impl.fieldReaches"], apart := false, laid := [("loop.example/g00188/impl.fieldReaches", laid_loop_example_g00188_impl_fieldReaches)], narrowed := true }
def FnExactCountFiresUptoSaid : Prop := fnExactCountFiresUptoRow.holds Tryd.pinned (OpenSpec.upto fnExactCountFiresSpec)

end Rows
end Go.Proofs.YtgeimliibddhmaaDoor
