/-
  No cell of these rows narrows 'for every input' (looked for: loops, veiled, ifaces, maps, wideKeys, modest, calm, conditions, laid).
  DERIVED. THE GIVEN ROWS OF THIS SEAT. 5 by the template 'for every input the law returns true; each argument reads behind the call as it read before'; 0 by the template 'total and deterministic' (their statements: YtiaiggjfepoahabTotals.lean).
  GIVEN WITH THE SEED: the statements are not yours to turn. If you find one false, say at which input.
  Laid BY PROGRAM, IN A SANDBOX (cutbox-rows.mjs): the forced cells as the released guide's own fill.sh prints them over the translation f089869c655f481a… (all of the seat's roots in one cut). By AI agents, Wed Nov 11 2026. No macro, syntax, notation, axiom, sorry.
-/
import Derived.Test.YtiaiggjfepoahabChecked
import GoSem.Claim
import GoSem.ClaimJoined
import GoSem.ClaimMapViews
import Derived.JoinedTies
import Derived.KernelRfl
namespace Go.Proofs.Ytiaiggjfepoahab
/- THE CELL 'sum', in the pinned program and in every row, IS THE sha256 OF THE DUMP (.gsa) THAT YtiaiggjfepoahabProg.lean LOADS. Nothing in Lean hashes anything: it is a label: what it is worth is what the hold of that sum in a sandbox is worth. -/
noncomputable def Try.pinned : Pinned := { name := "ytiaiggjfepoahab", sum := "f089869c655f481aa83cae9c2c3bbba6c284ac0bd2bd12b66fad8b2eeca17f74", checked := Try.checked }
namespace Rows
def none {H : Type} : Left H := { results := [], args := [] }

/-- 'laws.FnExactApplyMark': WHATEVER THE INPUT: true; the input reads as it did. -/
def fnExactApplyMarkSpec : ChangeSpec := { name := "fnExactApplyMark", fn := fun _ => fun
  | [d1, d2, d3] => { results := [.lit (.bool true)], args := [d1, d2, d3] }
  | _ => none }
def fnExactApplyMarkRow : OpenClaim := { program := "ytiaiggjfepoahab", sum := "f089869c655f481aa83cae9c2c3bbba6c284ac0bd2bd12b66fad8b2eeca17f74", func := "loop.example/macroprocessor/laws.FnExactApplyMark", spec := "fnExactApplyMark", apart := false }
def FnExactApplyMarkSaid : Prop := fnExactApplyMarkRow.holds Try.pinned (OpenSpec.ofChange fnExactApplyMarkSpec)

/-- ITS FALSE NEIGHBOUR: 'it returns false'. Refute it at one input. -/
def fnExactApplyMarkWrong : ChangeSpec := { name := "fnExactApplyMark", fn := fun _ => fun
  | [d1, d2, d3] => { results := [.lit (.bool false)], args := [d1, d2, d3] }
  | _ => none }
def FnExactApplyMarkWrongFalsely : Prop := fnExactApplyMarkRow.holds Try.pinned (OpenSpec.ofChange fnExactApplyMarkWrong)

/-- 'laws.FnExactNumberOf': WHATEVER THE INPUT: true; the input reads as it did. -/
def fnExactNumberOfSpec : ChangeSpec := { name := "fnExactNumberOf", fn := fun _ => fun
  | [d] => { results := [.lit (.bool true)], args := [d] }
  | _ => none }
def fnExactNumberOfRow : OpenClaim := { program := "ytiaiggjfepoahab", sum := "f089869c655f481aa83cae9c2c3bbba6c284ac0bd2bd12b66fad8b2eeca17f74", func := "loop.example/macroprocessor/laws.FnExactNumberOf", spec := "fnExactNumberOf", apart := false }
def FnExactNumberOfSaid : Prop := fnExactNumberOfRow.holds Try.pinned (OpenSpec.ofChange fnExactNumberOfSpec)

/-- ITS FALSE NEIGHBOUR: 'it returns false'. Refute it at one input. -/
def fnExactNumberOfWrong : ChangeSpec := { name := "fnExactNumberOf", fn := fun _ => fun
  | [d] => { results := [.lit (.bool false)], args := [d] }
  | _ => none }
def FnExactNumberOfWrongFalsely : Prop := fnExactNumberOfRow.holds Try.pinned (OpenSpec.ofChange fnExactNumberOfWrong)

/-- 'laws.FnExactValueOf': WHATEVER THE INPUT: true; the input reads as it did. -/
def fnExactValueOfSpec : ChangeSpec := { name := "fnExactValueOf", fn := fun _ => fun
  | [d] => { results := [.lit (.bool true)], args := [d] }
  | _ => none }
def fnExactValueOfRow : OpenClaim := { program := "ytiaiggjfepoahab", sum := "f089869c655f481aa83cae9c2c3bbba6c284ac0bd2bd12b66fad8b2eeca17f74", func := "loop.example/macroprocessor/laws.FnExactValueOf", spec := "fnExactValueOf", inPlace := ["internal/bytealg.IndexByteString"], recurses := true, apart := false }
def FnExactValueOfSaid : Prop := fnExactValueOfRow.holds Try.pinned (OpenSpec.ofChange fnExactValueOfSpec)

/-- ITS FALSE NEIGHBOUR: 'it returns false'. Refute it at one input. -/
def fnExactValueOfWrong : ChangeSpec := { name := "fnExactValueOf", fn := fun _ => fun
  | [d] => { results := [.lit (.bool false)], args := [d] }
  | _ => none }
def FnExactValueOfWrongFalsely : Prop := fnExactValueOfRow.holds Try.pinned (OpenSpec.ofChange fnExactValueOfWrong)

/-- 'laws.FnExactSplitArguments': WHATEVER THE INPUT: true; the input reads as it did. -/
def fnExactSplitArgumentsSpec : ChangeSpec := { name := "fnExactSplitArguments", fn := fun _ => fun
  | [d1, d2] => { results := [.lit (.bool true)], args := [d1, d2] }
  | _ => none }
def fnExactSplitArgumentsRow : OpenClaim := { program := "ytiaiggjfepoahab", sum := "f089869c655f481aa83cae9c2c3bbba6c284ac0bd2bd12b66fad8b2eeca17f74", func := "loop.example/macroprocessor/laws.FnExactSplitArguments", spec := "fnExactSplitArguments", inPlace := ["internal/bytealg.IndexByteString"], apart := false }
def FnExactSplitArgumentsSaid : Prop := fnExactSplitArgumentsRow.holds Try.pinned (OpenSpec.ofChange fnExactSplitArgumentsSpec)

/-- ITS FALSE NEIGHBOUR: 'it returns false'. Refute it at one input. -/
def fnExactSplitArgumentsWrong : ChangeSpec := { name := "fnExactSplitArguments", fn := fun _ => fun
  | [d1, d2] => { results := [.lit (.bool false)], args := [d1, d2] }
  | _ => none }
def FnExactSplitArgumentsWrongFalsely : Prop := fnExactSplitArgumentsRow.holds Try.pinned (OpenSpec.ofChange fnExactSplitArgumentsWrong)

/-- 'laws.FnSplitArguments': WHATEVER THE INPUT: true; the input reads as it did. -/
def fnSplitArgumentsSpec : ChangeSpec := { name := "fnSplitArguments", fn := fun _ => fun
  | [d] => { results := [.lit (.bool true)], args := [d] }
  | _ => none }
def fnSplitArgumentsRow : OpenClaim := { program := "ytiaiggjfepoahab", sum := "f089869c655f481aa83cae9c2c3bbba6c284ac0bd2bd12b66fad8b2eeca17f74", func := "loop.example/macroprocessor/laws.FnSplitArguments", spec := "fnSplitArguments", inPlace := ["internal/bytealg.IndexByteString"], apart := false }
def FnSplitArgumentsSaid : Prop := fnSplitArgumentsRow.holds Try.pinned (OpenSpec.ofChange fnSplitArgumentsSpec)

/-- ITS FALSE NEIGHBOUR: 'it returns false'. Refute it at one input. -/
def fnSplitArgumentsWrong : ChangeSpec := { name := "fnSplitArguments", fn := fun _ => fun
  | [d] => { results := [.lit (.bool false)], args := [d] }
  | _ => none }
def FnSplitArgumentsWrongFalsely : Prop := fnSplitArgumentsRow.holds Try.pinned (OpenSpec.ofChange fnSplitArgumentsWrong)

/- THE SECOND FORM. 'bulk': how many values and letters a reading holds, each counted each time it is reached (what is shared counts as often as it is met; a slice's spare places count too). A statement '..UptoSaid' is the law's where the arguments, and the package variables that the reading takes, are together of bulk at most 1048576: NARROWER than '..Said'. Prove '..Said' where nothing that the law and all that it calls make is longer than what came in: it says more and counts as full. Else prove '..UptoSaid'. A law counts once. -/
mutual
def uptoBulk {H : Type} : DataW H → Nat
  | .lit (.string bytes) => bytes.length + 1
  | .lit _ => 1
  | .nil => 1
  | .ptr d => uptoBulk d + 1
  | .slice elems spare => uptoBulkAll elems + uptoBulkAll spare + 1
  | .agg parts => uptoBulkAll parts + 1
  | .iface _ d => uptoBulk d + 1
  | .map entries => uptoBulkEntries entries + 1
  | .held _ => 1
def uptoBulkAll {H : Type} : List (DataW H) → Nat
  | [] => 0
  | d :: r => uptoBulk d + uptoBulkAll r
def uptoBulkEntries {H : Type} : List (Lit × DataW H) → Nat
  | [] => 0
  | x :: r => uptoBulkEntry x + uptoBulkEntries r
def uptoBulkEntry {H : Type} : Lit × DataW H → Nat
  | (.string bytes, d) => bytes.length + uptoBulk d + 1
  | (_, d) => uptoBulk d + 1
 end
def uptoSmall : (H : Type) → List (DataW H) → Bool := fun _ ds => decide (uptoBulkAll ds ≤ 1048576)
def OpenSpec.upto (s : _root_.Go.ChangeSpec) : _root_.Go.OpenSpec := { _root_.Go.OpenSpec.ofChange s with cond := some uptoSmall }

/-- 'laws.FnExactApplyMark', WHERE WHAT IT READS IS OF BULK AT MOST 1048576: true; the input reads as it did. -/
def fnExactApplyMarkUptoRow : OpenClaim := { program := "ytiaiggjfepoahab", sum := "f089869c655f481aa83cae9c2c3bbba6c284ac0bd2bd12b66fad8b2eeca17f74", func := "loop.example/macroprocessor/laws.FnExactApplyMark", spec := "fnExactApplyMark", apart := false, narrowed := true }
def FnExactApplyMarkUptoSaid : Prop := fnExactApplyMarkUptoRow.holds Try.pinned (OpenSpec.upto fnExactApplyMarkSpec)

/-- 'laws.FnExactNumberOf', WHERE WHAT IT READS IS OF BULK AT MOST 1048576: true; the input reads as it did. -/
def fnExactNumberOfUptoRow : OpenClaim := { program := "ytiaiggjfepoahab", sum := "f089869c655f481aa83cae9c2c3bbba6c284ac0bd2bd12b66fad8b2eeca17f74", func := "loop.example/macroprocessor/laws.FnExactNumberOf", spec := "fnExactNumberOf", apart := false, narrowed := true }
def FnExactNumberOfUptoSaid : Prop := fnExactNumberOfUptoRow.holds Try.pinned (OpenSpec.upto fnExactNumberOfSpec)

/-- 'laws.FnExactValueOf', WHERE WHAT IT READS IS OF BULK AT MOST 1048576: true; the input reads as it did. -/
def fnExactValueOfUptoRow : OpenClaim := { program := "ytiaiggjfepoahab", sum := "f089869c655f481aa83cae9c2c3bbba6c284ac0bd2bd12b66fad8b2eeca17f74", func := "loop.example/macroprocessor/laws.FnExactValueOf", spec := "fnExactValueOf", inPlace := ["internal/bytealg.IndexByteString"], recurses := true, apart := false, narrowed := true }
def FnExactValueOfUptoSaid : Prop := fnExactValueOfUptoRow.holds Try.pinned (OpenSpec.upto fnExactValueOfSpec)

/-- 'laws.FnExactSplitArguments', WHERE WHAT IT READS IS OF BULK AT MOST 1048576: true; the input reads as it did. -/
def fnExactSplitArgumentsUptoRow : OpenClaim := { program := "ytiaiggjfepoahab", sum := "f089869c655f481aa83cae9c2c3bbba6c284ac0bd2bd12b66fad8b2eeca17f74", func := "loop.example/macroprocessor/laws.FnExactSplitArguments", spec := "fnExactSplitArguments", inPlace := ["internal/bytealg.IndexByteString"], apart := false, narrowed := true }
def FnExactSplitArgumentsUptoSaid : Prop := fnExactSplitArgumentsUptoRow.holds Try.pinned (OpenSpec.upto fnExactSplitArgumentsSpec)

/-- 'laws.FnSplitArguments', WHERE WHAT IT READS IS OF BULK AT MOST 1048576: true; the input reads as it did. -/
def fnSplitArgumentsUptoRow : OpenClaim := { program := "ytiaiggjfepoahab", sum := "f089869c655f481aa83cae9c2c3bbba6c284ac0bd2bd12b66fad8b2eeca17f74", func := "loop.example/macroprocessor/laws.FnSplitArguments", spec := "fnSplitArguments", inPlace := ["internal/bytealg.IndexByteString"], apart := false, narrowed := true }
def FnSplitArgumentsUptoSaid : Prop := fnSplitArgumentsUptoRow.holds Try.pinned (OpenSpec.upto fnSplitArgumentsSpec)

end Rows
end Go.Proofs.Ytiaiggjfepoahab
