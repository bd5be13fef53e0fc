/-
  No cell of these rows narrows 'for every input' (looked for: loops, veiled, ifaces, maps, wideKeys, modest, calm, conditions, laid).
  DERIVED. THE GIVEN ROWS OF THIS SEAT. 4 by the template 'for every input the law returns true; each argument reads behind the call as it read before'; 0 by the template 'total and deterministic' (their statements: YtghikfggcnabeaaTotals.lean).
  GIVEN WITH THE SEED: the statements are not yours to turn. If you find one false, say at which input.
  Laid BY PROGRAM, IN A SANDBOX (cutbox-rows.mjs): the forced cells as the released guide's own fill.sh prints them over the translation eb401668a77a4545… (all of the seat's roots in one cut). By AI agents, Wed Nov 11 2026. No macro, syntax, notation, axiom, sorry.
-/
import Derived.Test.YtghikfggcnabeaaChecked
import GoSem.Claim
import GoSem.ClaimJoined
import GoSem.ClaimMapViews
import Derived.JoinedTies
import Derived.KernelRfl
namespace Go.Proofs.Ytghikfggcnabeaa
/- THE CELL 'sum', in the pinned program and in every row, IS THE sha256 OF THE DUMP (.gsa) THAT YtghikfggcnabeaaProg.lean LOADS. Nothing in Lean hashes anything: it is a label: what it is worth is what the hold of that sum in a sandbox is worth. -/
noncomputable def Try.pinned : Pinned := { name := "ytghikfggcnabeaa", sum := "eb401668a77a4545f015e5e379e5ac347d0280473769c3d5e70474e81afba5b3", checked := Try.checked }
namespace Rows
def none {H : Type} : Left H := { results := [], args := [] }

/-- 'laws.FnLevelsActive': WHATEVER THE INPUT: true; the input reads as it did. -/
def fnLevelsActiveSpec : ChangeSpec := { name := "fnLevelsActive", fn := fun _ => fun
  | [d] => { results := [.lit (.bool true)], args := [d] }
  | _ => none }
def fnLevelsActiveRow : OpenClaim := { program := "ytghikfggcnabeaa", sum := "eb401668a77a4545f015e5e379e5ac347d0280473769c3d5e70474e81afba5b3", func := "loop.example/macroprocessor/laws.FnLevelsActive", spec := "fnLevelsActive", apart := false }
def FnLevelsActiveSaid : Prop := fnLevelsActiveRow.holds Try.pinned (OpenSpec.ofChange fnLevelsActiveSpec)

/-- ITS FALSE NEIGHBOUR: 'it returns false'. Refute it at one input. -/
def fnLevelsActiveWrong : ChangeSpec := { name := "fnLevelsActive", fn := fun _ => fun
  | [d] => { results := [.lit (.bool false)], args := [d] }
  | _ => none }
def FnLevelsActiveWrongFalsely : Prop := fnLevelsActiveRow.holds Try.pinned (OpenSpec.ofChange fnLevelsActiveWrong)

/-- 'laws.FnLevelStep': WHATEVER THE INPUT: true; the input reads as it did. -/
def fnLevelStepSpec : ChangeSpec := { name := "fnLevelStep", fn := fun _ => fun
  | [d] => { results := [.lit (.bool true)], args := [d] }
  | _ => none }
def fnLevelStepRow : OpenClaim := { program := "ytghikfggcnabeaa", sum := "eb401668a77a4545f015e5e379e5ac347d0280473769c3d5e70474e81afba5b3", func := "loop.example/macroprocessor/laws.FnLevelStep", spec := "fnLevelStep", apart := false }
def FnLevelStepSaid : Prop := fnLevelStepRow.holds Try.pinned (OpenSpec.ofChange fnLevelStepSpec)

/-- ITS FALSE NEIGHBOUR: 'it returns false'. Refute it at one input. -/
def fnLevelStepWrong : ChangeSpec := { name := "fnLevelStep", fn := fun _ => fun
  | [d] => { results := [.lit (.bool false)], args := [d] }
  | _ => none }
def FnLevelStepWrongFalsely : Prop := fnLevelStepRow.holds Try.pinned (OpenSpec.ofChange fnLevelStepWrong)

/-- 'laws.FnExactLevelsActive': WHATEVER THE INPUT: true; the input reads as it did. -/
def fnExactLevelsActiveSpec : ChangeSpec := { name := "fnExactLevelsActive", fn := fun _ => fun
  | [d] => { results := [.lit (.bool true)], args := [d] }
  | _ => none }
def fnExactLevelsActiveRow : OpenClaim := { program := "ytghikfggcnabeaa", sum := "eb401668a77a4545f015e5e379e5ac347d0280473769c3d5e70474e81afba5b3", func := "loop.example/macroprocessor/laws.FnExactLevelsActive", spec := "fnExactLevelsActive", apart := false }
def FnExactLevelsActiveSaid : Prop := fnExactLevelsActiveRow.holds Try.pinned (OpenSpec.ofChange fnExactLevelsActiveSpec)

/-- ITS FALSE NEIGHBOUR: 'it returns false'. Refute it at one input. -/
def fnExactLevelsActiveWrong : ChangeSpec := { name := "fnExactLevelsActive", fn := fun _ => fun
  | [d] => { results := [.lit (.bool false)], args := [d] }
  | _ => none }
def FnExactLevelsActiveWrongFalsely : Prop := fnExactLevelsActiveRow.holds Try.pinned (OpenSpec.ofChange fnExactLevelsActiveWrong)

/-- 'laws.FnExactLevelStep': WHATEVER THE INPUT: true; the input reads as it did. -/
def fnExactLevelStepSpec : ChangeSpec := { name := "fnExactLevelStep", fn := fun _ => fun
  | [d1, d2, d3] => { results := [.lit (.bool true)], args := [d1, d2, d3] }
  | _ => none }
def fnExactLevelStepRow : OpenClaim := { program := "ytghikfggcnabeaa", sum := "eb401668a77a4545f015e5e379e5ac347d0280473769c3d5e70474e81afba5b3", func := "loop.example/macroprocessor/laws.FnExactLevelStep", spec := "fnExactLevelStep", apart := false }
def FnExactLevelStepSaid : Prop := fnExactLevelStepRow.holds Try.pinned (OpenSpec.ofChange fnExactLevelStepSpec)

/-- ITS FALSE NEIGHBOUR: 'it returns false'. Refute it at one input. -/
def fnExactLevelStepWrong : ChangeSpec := { name := "fnExactLevelStep", fn := fun _ => fun
  | [d1, d2, d3] => { results := [.lit (.bool false)], args := [d1, d2, d3] }
  | _ => none }
def FnExactLevelStepWrongFalsely : Prop := fnExactLevelStepRow.holds Try.pinned (OpenSpec.ofChange fnExactLevelStepWrong)

/- THE SECOND FORM. 'bulk': how many values and letters a reading holds, each counted each time it is reached (what is shared counts as often as it is met; a slice's spare places count too). A statement '..UptoSaid' is the law's where the arguments, and the package variables that the reading takes, are together of bulk at most 1048576: NARROWER than '..Said'. Prove '..Said' where nothing that the law and all that it calls make is longer than what came in: it says more and counts as full. Else prove '..UptoSaid'. A law counts once. -/
mutual
def uptoBulk {H : Type} : DataW H → Nat
  | .lit (.string bytes) => bytes.length + 1
  | .lit _ => 1
  | .nil => 1
  | .ptr d => uptoBulk d + 1
  | .slice elems spare => uptoBulkAll elems + uptoBulkAll spare + 1
  | .agg parts => uptoBulkAll parts + 1
  | .iface _ d => uptoBulk d + 1
  | .map entries => uptoBulkEntries entries + 1
  | .held _ => 1
def uptoBulkAll {H : Type} : List (DataW H) → Nat
  | [] => 0
  | d :: r => uptoBulk d + uptoBulkAll r
def uptoBulkEntries {H : Type} : List (Lit × DataW H) → Nat
  | [] => 0
  | x :: r => uptoBulkEntry x + uptoBulkEntries r
def uptoBulkEntry {H : Type} : Lit × DataW H → Nat
  | (.string bytes, d) => bytes.length + uptoBulk d + 1
  | (_, d) => uptoBulk d + 1
 end
def uptoSmall : (H : Type) → List (DataW H) → Bool := fun _ ds => decide (uptoBulkAll ds ≤ 1048576)
def OpenSpec.upto (s : _root_.Go.ChangeSpec) : _root_.Go.OpenSpec := { _root_.Go.OpenSpec.ofChange s with cond := some uptoSmall }

/-- 'laws.FnLevelsActive', WHERE WHAT IT READS IS OF BULK AT MOST 1048576: true; the input reads as it did. -/
def fnLevelsActiveUptoRow : OpenClaim := { program := "ytghikfggcnabeaa", sum := "eb401668a77a4545f015e5e379e5ac347d0280473769c3d5e70474e81afba5b3", func := "loop.example/macroprocessor/laws.FnLevelsActive", spec := "fnLevelsActive", apart := false, narrowed := true }
def FnLevelsActiveUptoSaid : Prop := fnLevelsActiveUptoRow.holds Try.pinned (OpenSpec.upto fnLevelsActiveSpec)

/-- 'laws.FnLevelStep', WHERE WHAT IT READS IS OF BULK AT MOST 1048576: true; the input reads as it did. -/
def fnLevelStepUptoRow : OpenClaim := { program := "ytghikfggcnabeaa", sum := "eb401668a77a4545f015e5e379e5ac347d0280473769c3d5e70474e81afba5b3", func := "loop.example/macroprocessor/laws.FnLevelStep", spec := "fnLevelStep", apart := false, narrowed := true }
def FnLevelStepUptoSaid : Prop := fnLevelStepUptoRow.holds Try.pinned (OpenSpec.upto fnLevelStepSpec)

/-- 'laws.FnExactLevelsActive', WHERE WHAT IT READS IS OF BULK AT MOST 1048576: true; the input reads as it did. -/
def fnExactLevelsActiveUptoRow : OpenClaim := { program := "ytghikfggcnabeaa", sum := "eb401668a77a4545f015e5e379e5ac347d0280473769c3d5e70474e81afba5b3", func := "loop.example/macroprocessor/laws.FnExactLevelsActive", spec := "fnExactLevelsActive", apart := false, narrowed := true }
def FnExactLevelsActiveUptoSaid : Prop := fnExactLevelsActiveUptoRow.holds Try.pinned (OpenSpec.upto fnExactLevelsActiveSpec)

/-- 'laws.FnExactLevelStep', WHERE WHAT IT READS IS OF BULK AT MOST 1048576: true; the input reads as it did. -/
def fnExactLevelStepUptoRow : OpenClaim := { program := "ytghikfggcnabeaa", sum := "eb401668a77a4545f015e5e379e5ac347d0280473769c3d5e70474e81afba5b3", func := "loop.example/macroprocessor/laws.FnExactLevelStep", spec := "fnExactLevelStep", apart := false, narrowed := true }
def FnExactLevelStepUptoSaid : Prop := fnExactLevelStepUptoRow.holds Try.pinned (OpenSpec.upto fnExactLevelStepSpec)

end Rows
end Go.Proofs.Ytghikfggcnabeaa
