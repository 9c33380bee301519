/-
  NARROWER THAN 'FOR EVERY INPUT', by the rows' own cells (each row's printed sentence says how): FnSpans: laid · FnLatest: laid · FnExactSpans: laid · FnExactLatest: laid.
  DERIVED. THE GIVEN ROWS OF THIS SEAT. 4 by the template 'for every input the law returns true; each argument reads behind the call as it read before'; 0 by the template 'total and deterministic' (their statements: YtbecdaholpiaeaaDoorTotals.lean).
  GIVEN WITH THE SEED: the statements are not yours to turn. If you find one false, say at which input.
  Laid BY PROGRAM, IN A SANDBOX (cutbox-rows.mjs): the forced cells as the released guide's own fill.sh prints them over the translation 3d310af305b6a8d2… (all of the seat's roots in one cut). By AI agents, Wed Nov 11 2026. No macro, syntax, notation, axiom, sorry.
-/
import Derived.Test.YtbecdaholpiaeaaDoorChecked
import GoSem.Claim
import GoSem.ClaimJoined
import GoSem.ClaimMapViews
import Derived.JoinedTies
import Derived.KernelRfl
namespace Go.Proofs.YtbecdaholpiaeaaDoor
/- THE CELL 'sum', in the pinned program and in every row, IS THE sha256 OF THE DUMP (.gsa) THAT YtbecdaholpiaeaaDoorProg.lean LOADS. Nothing in Lean hashes anything: it is a label: what it is worth is what the hold of that sum in a sandbox is worth. -/
noncomputable def Tryd.pinned : Pinned := { name := "ytbecdaholpiaeaadoor", sum := "3d310af305b6a8d21586f3a4417cba9fc2560f9431456bd94e5efc3a0bcfb1f4", checked := Tryd.checked }
namespace Rows
def none {H : Type} : Left H := { results := [], args := [] }

/- WHAT THE LISTED PACKAGE-LEVEL VARIABLES READ AS WHEN THE CALL BEGINS. Each datum BY PROGRAM (the guide's laid-datum.mjs) off the statement by which the dump's own 'gosem.cut.vars' lays the variable. In a bare row this is a premise. The card (YtbecdaholpiaeaaDoorCards.lean) ties it to the program's text. -/
def laid_loop_example_g00188_impl_fieldReaches {H : Type} : DataW H := .agg [.agg [.lit (.int .i64 0), .lit (.int .i64 59)], .agg [.lit (.int .i64 0), .lit (.int .i64 23)], .agg [.lit (.int .i64 1), .lit (.int .i64 31)], .agg [.lit (.int .i64 1), .lit (.int .i64 12)], .agg [.lit (.int .i64 0), .lit (.int .i64 6)]]

/-- 'laws.FnSpans': WHATEVER THE INPUT: true; the input reads as it did. -/
def fnSpansSpec : ChangeSpec := { name := "fnSpans", vars := ["loop.example/g00188/impl.fieldReaches"], fn := fun _ => fun
  | [d, g1] => { results := [.lit (.bool true)], args := [d], vars := [g1] }
  | _ => none }
def fnSpansRow : OpenClaim := { program := "ytbecdaholpiaeaadoor", sum := "3d310af305b6a8d21586f3a4417cba9fc2560f9431456bd94e5efc3a0bcfb1f4", func := "loop.example/g00188/laws.FnSpans", spec := "fnSpans", named := ["loop.example/g00188/impl.fieldReaches"], apart := false, laid := [("loop.example/g00188/impl.fieldReaches", laid_loop_example_g00188_impl_fieldReaches)] }
def FnSpansSaid : Prop := fnSpansRow.holds Tryd.pinned (OpenSpec.ofChange fnSpansSpec)

/-- ITS FALSE NEIGHBOUR: 'it returns false'. Refute it at one input. -/
def fnSpansWrong : ChangeSpec := { name := "fnSpans", vars := ["loop.example/g00188/impl.fieldReaches"], fn := fun _ => fun
  | [d, g1] => { results := [.lit (.bool false)], args := [d], vars := [g1] }
  | _ => none }
def FnSpansWrongFalsely : Prop := fnSpansRow.holds Tryd.pinned (OpenSpec.ofChange fnSpansWrong)

/-- 'laws.FnLatest': WHATEVER THE INPUT: true; the input reads as it did. -/
def fnLatestSpec : ChangeSpec := { name := "fnLatest", vars := ["loop.example/g00188/impl.fieldReaches"], fn := fun _ => fun
  | [d, g1] => { results := [.lit (.bool true)], args := [d], vars := [g1] }
  | _ => none }
def fnLatestRow : OpenClaim := { program := "ytbecdaholpiaeaadoor", sum := "3d310af305b6a8d21586f3a4417cba9fc2560f9431456bd94e5efc3a0bcfb1f4", func := "loop.example/g00188/laws.FnLatest", spec := "fnLatest", named := ["loop.example/g00188/impl.fieldReaches"], apart := false, laid := [("loop.example/g00188/impl.fieldReaches", laid_loop_example_g00188_impl_fieldReaches)] }
def FnLatestSaid : Prop := fnLatestRow.holds Tryd.pinned (OpenSpec.ofChange fnLatestSpec)

/-- ITS FALSE NEIGHBOUR: 'it returns false'. Refute it at one input. -/
def fnLatestWrong : ChangeSpec := { name := "fnLatest", vars := ["loop.example/g00188/impl.fieldReaches"], fn := fun _ => fun
  | [d, g1] => { results := [.lit (.bool false)], args := [d], vars := [g1] }
  | _ => none }
def FnLatestWrongFalsely : Prop := fnLatestRow.holds Tryd.pinned (OpenSpec.ofChange fnLatestWrong)

/-- 'laws.FnExactSpans': WHATEVER THE INPUT: true; the input reads as it did. -/
def fnExactSpansSpec : ChangeSpec := { name := "fnExactSpans", vars := ["loop.example/g00188/impl.fieldReaches"], fn := fun _ => fun
  | [d1, d2, d3, d4, g1] => { results := [.lit (.bool true)], args := [d1, d2, d3, d4], vars := [g1] }
  | _ => none }
def fnExactSpansRow : OpenClaim := { program := "ytbecdaholpiaeaadoor", sum := "3d310af305b6a8d21586f3a4417cba9fc2560f9431456bd94e5efc3a0bcfb1f4", func := "loop.example/g00188/laws.FnExactSpans", spec := "fnExactSpans", named := ["loop.example/g00188/impl.fieldReaches"], apart := false, laid := [("loop.example/g00188/impl.fieldReaches", laid_loop_example_g00188_impl_fieldReaches)] }
def FnExactSpansSaid : Prop := fnExactSpansRow.holds Tryd.pinned (OpenSpec.ofChange fnExactSpansSpec)

/-- ITS FALSE NEIGHBOUR: 'it returns false'. Refute it at one input. -/
def fnExactSpansWrong : ChangeSpec := { name := "fnExactSpans", vars := ["loop.example/g00188/impl.fieldReaches"], fn := fun _ => fun
  | [d1, d2, d3, d4, g1] => { results := [.lit (.bool false)], args := [d1, d2, d3, d4], vars := [g1] }
  | _ => none }
def FnExactSpansWrongFalsely : Prop := fnExactSpansRow.holds Tryd.pinned (OpenSpec.ofChange fnExactSpansWrong)

/-- 'laws.FnExactLatest': WHATEVER THE INPUT: true; the input reads as it did. -/
def fnExactLatestSpec : ChangeSpec := { name := "fnExactLatest", vars := ["loop.example/g00188/impl.fieldReaches"], fn := fun _ => fun
  | [d1, d2, d3, g1] => { results := [.lit (.bool true)], args := [d1, d2, d3], vars := [g1] }
  | _ => none }
def fnExactLatestRow : OpenClaim := { program := "ytbecdaholpiaeaadoor", sum := "3d310af305b6a8d21586f3a4417cba9fc2560f9431456bd94e5efc3a0bcfb1f4", func := "loop.example/g00188/laws.FnExactLatest", spec := "fnExactLatest", named := ["loop.example/g00188/impl.fieldReaches"], apart := false, laid := [("loop.example/g00188/impl.fieldReaches", laid_loop_example_g00188_impl_fieldReaches)] }
def FnExactLatestSaid : Prop := fnExactLatestRow.holds Tryd.pinned (OpenSpec.ofChange fnExactLatestSpec)

/-- ITS FALSE NEIGHBOUR: 'it returns false'. Refute it at one input. -/
def fnExactLatestWrong : ChangeSpec := { name := "fnExactLatest", vars := ["loop.example/g00188/impl.fieldReaches"], fn := fun _ => fun
  | [d1, d2, d3, g1] => { results := [.lit (.bool false)], args := [d1, d2, d3], vars := [g1] }
  | _ => none }
def FnExactLatestWrongFalsely : Prop := fnExactLatestRow.holds Tryd.pinned (OpenSpec.ofChange fnExactLatestWrong)

/- THE SECOND FORM. 'bulk': how many values and letters a reading holds, each counted each time it is reached (what is shared counts as often as it is met; a slice's spare places count too). A statement '..UptoSaid' is the law's where the arguments, and the package variables that the reading takes, are together of bulk at most 1048576: NARROWER than '..Said'. Prove '..Said' where nothing that the law and all that it calls make is longer than what came in: it says more and counts as full. Else prove '..UptoSaid'. A law counts once. -/
mutual
def uptoBulk {H : Type} : DataW H → Nat
  | .lit (.string bytes) => bytes.length + 1
  | .lit _ => 1
  | .nil => 1
  | .ptr d => uptoBulk d + 1
  | .slice elems spare => uptoBulkAll elems + uptoBulkAll spare + 1
  | .agg parts => uptoBulkAll parts + 1
  | .iface _ d => uptoBulk d + 1
  | .map entries => uptoBulkEntries entries + 1
  | .held _ => 1
def uptoBulkAll {H : Type} : List (DataW H) → Nat
  | [] => 0
  | d :: r => uptoBulk d + uptoBulkAll r
def uptoBulkEntries {H : Type} : List (Lit × DataW H) → Nat
  | [] => 0
  | x :: r => uptoBulkEntry x + uptoBulkEntries r
def uptoBulkEntry {H : Type} : Lit × DataW H → Nat
  | (.string bytes, d) => bytes.length + uptoBulk d + 1
  | (_, d) => uptoBulk d + 1
 end
def uptoSmall : (H : Type) → List (DataW H) → Bool := fun _ ds => decide (uptoBulkAll ds ≤ 1048576)
def OpenSpec.upto (s : _root_.Go.ChangeSpec) : _root_.Go.OpenSpec := { _root_.Go.OpenSpec.ofChange s with cond := some uptoSmall }

/-- 'laws.FnSpans', WHERE WHAT IT READS IS OF BULK AT MOST 1048576: true; the input reads as it did. -/
def fnSpansUptoRow : OpenClaim := { program := "ytbecdaholpiaeaadoor", sum := "3d310af305b6a8d21586f3a4417cba9fc2560f9431456bd94e5efc3a0bcfb1f4", func := "loop.example/g00188/laws.FnSpans", spec := "fnSpans", named := ["loop.example/g00188/impl.fieldReaches"], apart := false, laid := [("loop.example/g00188/impl.fieldReaches", laid_loop_example_g00188_impl_fieldReaches)], narrowed := true }
def FnSpansUptoSaid : Prop := fnSpansUptoRow.holds Tryd.pinned (OpenSpec.upto fnSpansSpec)

/-- 'laws.FnLatest', WHERE WHAT IT READS IS OF BULK AT MOST 1048576: true; the input reads as it did. -/
def fnLatestUptoRow : OpenClaim := { program := "ytbecdaholpiaeaadoor", sum := "3d310af305b6a8d21586f3a4417cba9fc2560f9431456bd94e5efc3a0bcfb1f4", func := "loop.example/g00188/laws.FnLatest", spec := "fnLatest", named := ["loop.example/g00188/impl.fieldReaches"], apart := false, laid := [("loop.example/g00188/impl.fieldReaches", laid_loop_example_g00188_impl_fieldReaches)], narrowed := true }
def FnLatestUptoSaid : Prop := fnLatestUptoRow.holds Tryd.pinned (OpenSpec.upto fnLatestSpec)

/-- 'laws.FnExactSpans', WHERE WHAT IT READS IS OF BULK AT MOST 1048576: true; the input reads as it did. -/
def fnExactSpansUptoRow : OpenClaim := { program := "ytbecdaholpiaeaadoor", sum := "3d310af305b6a8d21586f3a4417cba9fc2560f9431456bd94e5efc3a0bcfb1f4", func := "loop.example/g00188/laws.FnExactSpans", spec := "fnExactSpans", named := ["loop.example/g00188/impl.fieldReaches"], apart := false, laid := [("loop.example/g00188/impl.fieldReaches", laid_loop_example_g00188_impl_fieldReaches)], narrowed := true }
def FnExactSpansUptoSaid : Prop := fnExactSpansUptoRow.holds Tryd.pinned (OpenSpec.upto fnExactSpansSpec)

/-- 'laws.FnExactLatest', WHERE WHAT IT READS IS OF BULK AT MOST 1048576: true; the input reads as it did. -/
def fnExactLatestUptoRow : OpenClaim := { program := "ytbecdaholpiaeaadoor", sum := "3d310af305b6a8d21586f3a4417cba9fc2560f9431456bd94e5efc3a0bcfb1f4", func := "loop.example/g00188/laws.FnExactLatest", spec := "fnExactLatest", named := ["loop.example/g00188/impl.fieldReaches"], apart := false, laid := [("loop.example/g00188/impl.fieldReaches", laid_loop_example_g00188_impl_fieldReaches)], narrowed := true }
def FnExactLatestUptoSaid : Prop := fnExactLatestUptoRow.holds Tryd.pinned (OpenSpec.upto fnExactLatestSpec)

end Rows
end Go.Proofs.YtbecdaholpiaeaaDoor
