/-
  NARROWER THAN 'FOR EVERY INPUT', by the rows' own cells (each row's printed sentence says how): FnKindText: laid · FnReadDirective: laid · FnExactKindText: laid · FnExactDirectiveOf: laid · FnExactReadDirective: laid · FnDirectiveOf: laid.
  DERIVED. THE GIVEN ROWS OF THIS SEAT. 6 by the template 'for every input the law returns true; each argument reads behind the call as it read before'; 0 by the template 'total and deterministic' (their statements: YtlegeancmcmbaaaDoorTotals.lean).
  GIVEN WITH THE SEED: the statements are not yours to turn. If you find one false, say at which input.
  Laid BY PROGRAM, IN A SANDBOX (cutbox-rows.mjs): the forced cells as the released guide's own fill.sh prints them over the translation 0a1fee6df6b0477c… (all of the seat's roots in one cut). By AI agents, Wed Nov 11 2026. No macro, syntax, notation, axiom, sorry.
-/
import Derived.Test.YtlegeancmcmbaaaDoorChecked
import GoSem.Claim
import GoSem.ClaimJoined
import GoSem.ClaimMapViews
import Derived.JoinedTies
import Derived.KernelRfl
namespace Go.Proofs.YtlegeancmcmbaaaDoor
/- THE CELL 'sum', in the pinned program and in every row, IS THE sha256 OF THE DUMP (.gsa) THAT YtlegeancmcmbaaaDoorProg.lean LOADS. Nothing in Lean hashes anything: it is a label: what it is worth is what the hold of that sum in a sandbox is worth. -/
noncomputable def Tryd.pinned : Pinned := { name := "ytlegeancmcmbaaadoor", sum := "0a1fee6df6b0477cda9bce7c4c5787c6c50deda5c47177accef685f5c68062ca", checked := Tryd.checked }
namespace Rows
def none {H : Type} : Left H := { results := [], args := [] }

/- WHAT THE LISTED PACKAGE-LEVEL VARIABLES READ AS WHEN THE CALL BEGINS. Each datum BY PROGRAM (the guide's laid-datum.mjs) off the statement by which the dump's own 'gosem.cut.vars' lays the variable. In a bare row this is a premise. The card (YtlegeancmcmbaaaDoorCards.lean) ties it to the program's text. -/
def laid_loop_example_macroprocessor_impl_kindNames {H : Type} : DataW H := .agg [.lit (.string []), .lit (.string [100, 101, 102, 105, 110, 101]), .lit (.string [117, 110, 100, 101, 102]), .lit (.string [105, 102]), .lit (.string [105, 102, 100, 101, 102]), .lit (.string [105, 102, 110, 100, 101, 102]), .lit (.string [101, 108, 105, 102]), .lit (.string [101, 108, 115, 101]), .lit (.string [101, 110, 100, 105, 102]), .lit (.string [105, 110, 99, 108, 117, 100, 101]), .lit (.string [101, 114, 114, 111, 114])]

/-- 'laws.FnKindText': WHATEVER THE INPUT: true; the input reads as it did. -/
def fnKindTextSpec : ChangeSpec := { name := "fnKindText", vars := ["loop.example/macroprocessor/impl.kindNames"], fn := fun _ => fun
  | [d, g1] => { results := [.lit (.bool true)], args := [d], vars := [g1] }
  | _ => none }
def fnKindTextRow : OpenClaim := { program := "ytlegeancmcmbaaadoor", sum := "0a1fee6df6b0477cda9bce7c4c5787c6c50deda5c47177accef685f5c68062ca", func := "loop.example/macroprocessor/laws.FnKindText", spec := "fnKindText", named := ["loop.example/macroprocessor/impl.kindNames"], apart := false, laid := [("loop.example/macroprocessor/impl.kindNames", laid_loop_example_macroprocessor_impl_kindNames)] }
def FnKindTextSaid : Prop := fnKindTextRow.holds Tryd.pinned (OpenSpec.ofChange fnKindTextSpec)

/-- ITS FALSE NEIGHBOUR: 'it returns false'. Refute it at one input. -/
def fnKindTextWrong : ChangeSpec := { name := "fnKindText", vars := ["loop.example/macroprocessor/impl.kindNames"], fn := fun _ => fun
  | [d, g1] => { results := [.lit (.bool false)], args := [d], vars := [g1] }
  | _ => none }
def FnKindTextWrongFalsely : Prop := fnKindTextRow.holds Tryd.pinned (OpenSpec.ofChange fnKindTextWrong)

/-- 'laws.FnReadDirective': WHATEVER THE INPUT: true; the input reads as it did. -/
def fnReadDirectiveSpec : ChangeSpec := { name := "fnReadDirective", vars := ["loop.example/macroprocessor/impl.kindNames"], fn := fun _ => fun
  | [d, g1] => { results := [.lit (.bool true)], args := [d], vars := [g1] }
  | _ => none }
def fnReadDirectiveRow : OpenClaim := { program := "ytlegeancmcmbaaadoor", sum := "0a1fee6df6b0477cda9bce7c4c5787c6c50deda5c47177accef685f5c68062ca", func := "loop.example/macroprocessor/laws.FnReadDirective", spec := "fnReadDirective", inPlace := ["internal/bytealg.IndexByteString", "internal/bytealg.IndexString"], unfollowed := true, recurses := true, named := ["internal/bytealg.MaxLen", "loop.example/macroprocessor/impl.kindNames"], apart := false, laid := [("loop.example/macroprocessor/impl.kindNames", laid_loop_example_macroprocessor_impl_kindNames)] }
def FnReadDirectiveSaid : Prop := fnReadDirectiveRow.holds Tryd.pinned (OpenSpec.ofChange fnReadDirectiveSpec)

/-- ITS FALSE NEIGHBOUR: 'it returns false'. Refute it at one input. -/
def fnReadDirectiveWrong : ChangeSpec := { name := "fnReadDirective", vars := ["loop.example/macroprocessor/impl.kindNames"], fn := fun _ => fun
  | [d, g1] => { results := [.lit (.bool false)], args := [d], vars := [g1] }
  | _ => none }
def FnReadDirectiveWrongFalsely : Prop := fnReadDirectiveRow.holds Tryd.pinned (OpenSpec.ofChange fnReadDirectiveWrong)

/-- 'laws.FnExactKindText': WHATEVER THE INPUT: true; the input reads as it did. -/
def fnExactKindTextSpec : ChangeSpec := { name := "fnExactKindText", vars := ["loop.example/macroprocessor/impl.kindNames"], fn := fun _ => fun
  | [d, g1] => { results := [.lit (.bool true)], args := [d], vars := [g1] }
  | _ => none }
def fnExactKindTextRow : OpenClaim := { program := "ytlegeancmcmbaaadoor", sum := "0a1fee6df6b0477cda9bce7c4c5787c6c50deda5c47177accef685f5c68062ca", func := "loop.example/macroprocessor/laws.FnExactKindText", spec := "fnExactKindText", named := ["loop.example/macroprocessor/impl.kindNames"], apart := false, laid := [("loop.example/macroprocessor/impl.kindNames", laid_loop_example_macroprocessor_impl_kindNames)] }
def FnExactKindTextSaid : Prop := fnExactKindTextRow.holds Tryd.pinned (OpenSpec.ofChange fnExactKindTextSpec)

/-- ITS FALSE NEIGHBOUR: 'it returns false'. Refute it at one input. -/
def fnExactKindTextWrong : ChangeSpec := { name := "fnExactKindText", vars := ["loop.example/macroprocessor/impl.kindNames"], fn := fun _ => fun
  | [d, g1] => { results := [.lit (.bool false)], args := [d], vars := [g1] }
  | _ => none }
def FnExactKindTextWrongFalsely : Prop := fnExactKindTextRow.holds Tryd.pinned (OpenSpec.ofChange fnExactKindTextWrong)

/-- 'laws.FnExactDirectiveOf': WHATEVER THE INPUT: true; the input reads as it did. -/
def fnExactDirectiveOfSpec : ChangeSpec := { name := "fnExactDirectiveOf", vars := ["loop.example/macroprocessor/impl.kindNames"], fn := fun _ => fun
  | [d, g1] => { results := [.lit (.bool true)], args := [d], vars := [g1] }
  | _ => none }
def fnExactDirectiveOfRow : OpenClaim := { program := "ytlegeancmcmbaaadoor", sum := "0a1fee6df6b0477cda9bce7c4c5787c6c50deda5c47177accef685f5c68062ca", func := "loop.example/macroprocessor/laws.FnExactDirectiveOf", spec := "fnExactDirectiveOf", inPlace := ["internal/bytealg.IndexByteString"], unfollowed := true, recurses := true, named := ["loop.example/macroprocessor/impl.kindNames"], apart := false, laid := [("loop.example/macroprocessor/impl.kindNames", laid_loop_example_macroprocessor_impl_kindNames)] }
def FnExactDirectiveOfSaid : Prop := fnExactDirectiveOfRow.holds Tryd.pinned (OpenSpec.ofChange fnExactDirectiveOfSpec)

/-- ITS FALSE NEIGHBOUR: 'it returns false'. Refute it at one input. -/
def fnExactDirectiveOfWrong : ChangeSpec := { name := "fnExactDirectiveOf", vars := ["loop.example/macroprocessor/impl.kindNames"], fn := fun _ => fun
  | [d, g1] => { results := [.lit (.bool false)], args := [d], vars := [g1] }
  | _ => none }
def FnExactDirectiveOfWrongFalsely : Prop := fnExactDirectiveOfRow.holds Tryd.pinned (OpenSpec.ofChange fnExactDirectiveOfWrong)

/-- 'laws.FnExactReadDirective': WHATEVER THE INPUT: true; the input reads as it did. -/
def fnExactReadDirectiveSpec : ChangeSpec := { name := "fnExactReadDirective", vars := ["loop.example/macroprocessor/impl.kindNames"], fn := fun _ => fun
  | [d, g1] => { results := [.lit (.bool true)], args := [d], vars := [g1] }
  | _ => none }
def fnExactReadDirectiveRow : OpenClaim := { program := "ytlegeancmcmbaaadoor", sum := "0a1fee6df6b0477cda9bce7c4c5787c6c50deda5c47177accef685f5c68062ca", func := "loop.example/macroprocessor/laws.FnExactReadDirective", spec := "fnExactReadDirective", inPlace := ["internal/bytealg.IndexByteString", "internal/bytealg.IndexString"], unfollowed := true, recurses := true, named := ["internal/bytealg.MaxLen", "loop.example/macroprocessor/impl.kindNames"], apart := false, laid := [("loop.example/macroprocessor/impl.kindNames", laid_loop_example_macroprocessor_impl_kindNames)] }
def FnExactReadDirectiveSaid : Prop := fnExactReadDirectiveRow.holds Tryd.pinned (OpenSpec.ofChange fnExactReadDirectiveSpec)

/-- ITS FALSE NEIGHBOUR: 'it returns false'. Refute it at one input. -/
def fnExactReadDirectiveWrong : ChangeSpec := { name := "fnExactReadDirective", vars := ["loop.example/macroprocessor/impl.kindNames"], fn := fun _ => fun
  | [d, g1] => { results := [.lit (.bool false)], args := [d], vars := [g1] }
  | _ => none }
def FnExactReadDirectiveWrongFalsely : Prop := fnExactReadDirectiveRow.holds Tryd.pinned (OpenSpec.ofChange fnExactReadDirectiveWrong)

/-- 'laws.FnDirectiveOf': WHATEVER THE INPUT: true; the input reads as it did. -/
def fnDirectiveOfSpec : ChangeSpec := { name := "fnDirectiveOf", vars := ["loop.example/macroprocessor/impl.kindNames"], fn := fun _ => fun
  | [d, g1] => { results := [.lit (.bool true)], args := [d], vars := [g1] }
  | _ => none }
def fnDirectiveOfRow : OpenClaim := { program := "ytlegeancmcmbaaadoor", sum := "0a1fee6df6b0477cda9bce7c4c5787c6c50deda5c47177accef685f5c68062ca", func := "loop.example/macroprocessor/laws.FnDirectiveOf", spec := "fnDirectiveOf", inPlace := ["internal/bytealg.IndexByteString"], unfollowed := true, recurses := true, named := ["loop.example/macroprocessor/impl.kindNames"], apart := false, laid := [("loop.example/macroprocessor/impl.kindNames", laid_loop_example_macroprocessor_impl_kindNames)] }
def FnDirectiveOfSaid : Prop := fnDirectiveOfRow.holds Tryd.pinned (OpenSpec.ofChange fnDirectiveOfSpec)

/-- ITS FALSE NEIGHBOUR: 'it returns false'. Refute it at one input. -/
def fnDirectiveOfWrong : ChangeSpec := { name := "fnDirectiveOf", vars := ["loop.example/macroprocessor/impl.kindNames"], fn := fun _ => fun
  | [d, g1] => { results := [.lit (.bool false)], args := [d], vars := [g1] }
  | _ => none }
def FnDirectiveOfWrongFalsely : Prop := fnDirectiveOfRow.holds Tryd.pinned (OpenSpec.ofChange fnDirectiveOfWrong)

/- THE SECOND FORM. 'bulk': how many values and letters a reading holds, each counted each time it is reached (what is shared counts as often as it is met; a slice's spare places count too). A statement '..UptoSaid' is the law's where the arguments, and the package variables that the reading takes, are together of bulk at most 1048576: NARROWER than '..Said'. Prove '..Said' where nothing that the law and all that it calls make is longer than what came in: it says more and counts as full. Else prove '..UptoSaid'. A law counts once. -/
mutual
def uptoBulk {H : Type} : DataW H → Nat
  | .lit (.string bytes) => bytes.length + 1
  | .lit _ => 1
  | .nil => 1
  | .ptr d => uptoBulk d + 1
  | .slice elems spare => uptoBulkAll elems + uptoBulkAll spare + 1
  | .agg parts => uptoBulkAll parts + 1
  | .iface _ d => uptoBulk d + 1
  | .map entries => uptoBulkEntries entries + 1
  | .held _ => 1
def uptoBulkAll {H : Type} : List (DataW H) → Nat
  | [] => 0
  | d :: r => uptoBulk d + uptoBulkAll r
def uptoBulkEntries {H : Type} : List (Lit × DataW H) → Nat
  | [] => 0
  | x :: r => uptoBulkEntry x + uptoBulkEntries r
def uptoBulkEntry {H : Type} : Lit × DataW H → Nat
  | (.string bytes, d) => bytes.length + uptoBulk d + 1
  | (_, d) => uptoBulk d + 1
 end
def uptoSmall : (H : Type) → List (DataW H) → Bool := fun _ ds => decide (uptoBulkAll ds ≤ 1048576)
def OpenSpec.upto (s : _root_.Go.ChangeSpec) : _root_.Go.OpenSpec := { _root_.Go.OpenSpec.ofChange s with cond := some uptoSmall }

/-- 'laws.FnKindText', WHERE WHAT IT READS IS OF BULK AT MOST 1048576: true; the input reads as it did. -/
def fnKindTextUptoRow : OpenClaim := { program := "ytlegeancmcmbaaadoor", sum := "0a1fee6df6b0477cda9bce7c4c5787c6c50deda5c47177accef685f5c68062ca", func := "loop.example/macroprocessor/laws.FnKindText", spec := "fnKindText", named := ["loop.example/macroprocessor/impl.kindNames"], apart := false, laid := [("loop.example/macroprocessor/impl.kindNames", laid_loop_example_macroprocessor_impl_kindNames)], narrowed := true }
def FnKindTextUptoSaid : Prop := fnKindTextUptoRow.holds Tryd.pinned (OpenSpec.upto fnKindTextSpec)

/-- 'laws.FnReadDirective', WHERE WHAT IT READS IS OF BULK AT MOST 1048576: true; the input reads as it did. -/
def fnReadDirectiveUptoRow : OpenClaim := { program := "ytlegeancmcmbaaadoor", sum := "0a1fee6df6b0477cda9bce7c4c5787c6c50deda5c47177accef685f5c68062ca", func := "loop.example/macroprocessor/laws.FnReadDirective", spec := "fnReadDirective", inPlace := ["internal/bytealg.IndexByteString", "internal/bytealg.IndexString"], unfollowed := true, recurses := true, named := ["internal/bytealg.MaxLen", "loop.example/macroprocessor/impl.kindNames"], apart := false, laid := [("loop.example/macroprocessor/impl.kindNames", laid_loop_example_macroprocessor_impl_kindNames)], narrowed := true }
def FnReadDirectiveUptoSaid : Prop := fnReadDirectiveUptoRow.holds Tryd.pinned (OpenSpec.upto fnReadDirectiveSpec)

/-- 'laws.FnExactKindText', WHERE WHAT IT READS IS OF BULK AT MOST 1048576: true; the input reads as it did. -/
def fnExactKindTextUptoRow : OpenClaim := { program := "ytlegeancmcmbaaadoor", sum := "0a1fee6df6b0477cda9bce7c4c5787c6c50deda5c47177accef685f5c68062ca", func := "loop.example/macroprocessor/laws.FnExactKindText", spec := "fnExactKindText", named := ["loop.example/macroprocessor/impl.kindNames"], apart := false, laid := [("loop.example/macroprocessor/impl.kindNames", laid_loop_example_macroprocessor_impl_kindNames)], narrowed := true }
def FnExactKindTextUptoSaid : Prop := fnExactKindTextUptoRow.holds Tryd.pinned (OpenSpec.upto fnExactKindTextSpec)

/-- 'laws.FnExactDirectiveOf', WHERE WHAT IT READS IS OF BULK AT MOST 1048576: true; the input reads as it did. -/
def fnExactDirectiveOfUptoRow : OpenClaim := { program := "ytlegeancmcmbaaadoor", sum := "0a1fee6df6b0477cda9bce7c4c5787c6c50deda5c47177accef685f5c68062ca", func := "loop.example/macroprocessor/laws.FnExactDirectiveOf", spec := "fnExactDirectiveOf", inPlace := ["internal/bytealg.IndexByteString"], unfollowed := true, recurses := true, named := ["loop.example/macroprocessor/impl.kindNames"], apart := false, laid := [("loop.example/macroprocessor/impl.kindNames", laid_loop_example_macroprocessor_impl_kindNames)], narrowed := true }
def FnExactDirectiveOfUptoSaid : Prop := fnExactDirectiveOfUptoRow.holds Tryd.pinned (OpenSpec.upto fnExactDirectiveOfSpec)

/-- 'laws.FnExactReadDirective', WHERE WHAT IT READS IS OF BULK AT MOST 1048576: true; the input reads as it did. -/
def fnExactReadDirectiveUptoRow : OpenClaim := { program := "ytlegeancmcmbaaadoor", sum := "0a1fee6df6b0477cda9bce7c4c5787c6c50deda5c47177accef685f5c68062ca", func := "loop.example/macroprocessor/laws.FnExactReadDirective", spec := "fnExactReadDirective", inPlace := ["internal/bytealg.IndexByteString", "internal/bytealg.IndexString"], unfollowed := true, recurses := true, named := ["internal/bytealg.MaxLen", "loop.example/macroprocessor/impl.kindNames"], apart := false, laid := [("loop.example/macroprocessor/impl.kindNames", laid_loop_example_macroprocessor_impl_kindNames)], narrowed := true }
def FnExactReadDirectiveUptoSaid : Prop := fnExactReadDirectiveUptoRow.holds Tryd.pinned (OpenSpec.upto fnExactReadDirectiveSpec)

/-- 'laws.FnDirectiveOf', WHERE WHAT IT READS IS OF BULK AT MOST 1048576: true; the input reads as it did. -/
def fnDirectiveOfUptoRow : OpenClaim := { program := "ytlegeancmcmbaaadoor", sum := "0a1fee6df6b0477cda9bce7c4c5787c6c50deda5c47177accef685f5c68062ca", func := "loop.example/macroprocessor/laws.FnDirectiveOf", spec := "fnDirectiveOf", inPlace := ["internal/bytealg.IndexByteString"], unfollowed := true, recurses := true, named := ["loop.example/macroprocessor/impl.kindNames"], apart := false, laid := [("loop.example/macroprocessor/impl.kindNames", laid_loop_example_macroprocessor_impl_kindNames)], narrowed := true }
def FnDirectiveOfUptoSaid : Prop := fnDirectiveOfUptoRow.holds Tryd.pinned (OpenSpec.upto fnDirectiveOfSpec)

end Rows
end Go.Proofs.YtlegeancmcmbaaaDoor
