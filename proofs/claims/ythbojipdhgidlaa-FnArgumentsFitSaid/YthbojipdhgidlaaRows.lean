/-
  No cell of these rows narrows 'for every input' (looked for: loops, veiled, ifaces, maps, wideKeys, modest, calm, conditions, laid).
  DERIVED. THE GIVEN ROWS OF THIS SEAT. 4 by the template 'for every input the law returns true; each argument reads behind the call as it read before'; 0 by the template 'total and deterministic' (their statements: YthbojipdhgidlaaTotals.lean).
  GIVEN WITH THE SEED: the statements are not yours to turn. If you find one false, say at which input.
  Laid BY PROGRAM, IN A SANDBOX (cutbox-rows.mjs): the forced cells as the released guide's own fill.sh prints them over the translation ae9be96e0b164545… (all of the seat's roots in one cut). By AI agents, Wed Nov 11 2026. No macro, syntax, notation, axiom, sorry.
-/
import Derived.Test.YthbojipdhgidlaaChecked
import GoSem.Claim
import GoSem.ClaimJoined
import GoSem.ClaimMapViews
import Derived.JoinedTies
import Derived.KernelRfl
namespace Go.Proofs.Ythbojipdhgidlaa
/- THE CELL 'sum', in the pinned program and in every row, IS THE sha256 OF THE DUMP (.gsa) THAT YthbojipdhgidlaaProg.lean LOADS. Nothing in Lean hashes anything: it is a label: what it is worth is what the hold of that sum in a sandbox is worth. -/
noncomputable def Try.pinned : Pinned := { name := "ythbojipdhgidlaa", sum := "ae9be96e0b16454513da91019717da6aa2326b7b9ceec421b1c526a1ac896f94", checked := Try.checked }
namespace Rows
def none {H : Type} : Left H := { results := [], args := [] }

/-- 'laws.FnExactArgumentsFit': WHATEVER THE INPUT: true; the input reads as it did. -/
def fnExactArgumentsFitSpec : ChangeSpec := { name := "fnExactArgumentsFit", fn := fun _ => fun
  | [d1, d2] => { results := [.lit (.bool true)], args := [d1, d2] }
  | _ => none }
def fnExactArgumentsFitRow : OpenClaim := { program := "ythbojipdhgidlaa", sum := "ae9be96e0b16454513da91019717da6aa2326b7b9ceec421b1c526a1ac896f94", func := "loop.example/macroprocessor/laws.FnExactArgumentsFit", spec := "fnExactArgumentsFit", inPlace := ["internal/bytealg.IndexByteString"], apart := false }
def FnExactArgumentsFitSaid : Prop := fnExactArgumentsFitRow.holds Try.pinned (OpenSpec.ofChange fnExactArgumentsFitSpec)

/-- ITS FALSE NEIGHBOUR: 'it returns false'. Refute it at one input. -/
def fnExactArgumentsFitWrong : ChangeSpec := { name := "fnExactArgumentsFit", fn := fun _ => fun
  | [d1, d2] => { results := [.lit (.bool false)], args := [d1, d2] }
  | _ => none }
def FnExactArgumentsFitWrongFalsely : Prop := fnExactArgumentsFitRow.holds Try.pinned (OpenSpec.ofChange fnExactArgumentsFitWrong)

/-- 'laws.FnArgumentsFit': WHATEVER THE INPUT: true; the input reads as it did. -/
def fnArgumentsFitSpec : ChangeSpec := { name := "fnArgumentsFit", fn := fun _ => fun
  | [d] => { results := [.lit (.bool true)], args := [d] }
  | _ => none }
def fnArgumentsFitRow : OpenClaim := { program := "ythbojipdhgidlaa", sum := "ae9be96e0b16454513da91019717da6aa2326b7b9ceec421b1c526a1ac896f94", func := "loop.example/macroprocessor/laws.FnArgumentsFit", spec := "fnArgumentsFit", inPlace := ["internal/bytealg.IndexByteString"], apart := false }
def FnArgumentsFitSaid : Prop := fnArgumentsFitRow.holds Try.pinned (OpenSpec.ofChange fnArgumentsFitSpec)

/-- ITS FALSE NEIGHBOUR: 'it returns false'. Refute it at one input. -/
def fnArgumentsFitWrong : ChangeSpec := { name := "fnArgumentsFit", fn := fun _ => fun
  | [d] => { results := [.lit (.bool false)], args := [d] }
  | _ => none }
def FnArgumentsFitWrongFalsely : Prop := fnArgumentsFitRow.holds Try.pinned (OpenSpec.ofChange fnArgumentsFitWrong)

/-- 'laws.FnExactSplitArguments': WHATEVER THE INPUT: true; the input reads as it did. -/
def fnExactSplitArgumentsSpec : ChangeSpec := { name := "fnExactSplitArguments", fn := fun _ => fun
  | [d1, d2] => { results := [.lit (.bool true)], args := [d1, d2] }
  | _ => none }
def fnExactSplitArgumentsRow : OpenClaim := { program := "ythbojipdhgidlaa", sum := "ae9be96e0b16454513da91019717da6aa2326b7b9ceec421b1c526a1ac896f94", func := "loop.example/macroprocessor/laws.FnExactSplitArguments", spec := "fnExactSplitArguments", inPlace := ["internal/bytealg.IndexByteString"], apart := false }
def FnExactSplitArgumentsSaid : Prop := fnExactSplitArgumentsRow.holds Try.pinned (OpenSpec.ofChange fnExactSplitArgumentsSpec)

/-- ITS FALSE NEIGHBOUR: 'it returns false'. Refute it at one input. -/
def fnExactSplitArgumentsWrong : ChangeSpec := { name := "fnExactSplitArguments", fn := fun _ => fun
  | [d1, d2] => { results := [.lit (.bool false)], args := [d1, d2] }
  | _ => none }
def FnExactSplitArgumentsWrongFalsely : Prop := fnExactSplitArgumentsRow.holds Try.pinned (OpenSpec.ofChange fnExactSplitArgumentsWrong)

/-- 'laws.FnSplitArguments': WHATEVER THE INPUT: true; the input reads as it did. -/
def fnSplitArgumentsSpec : ChangeSpec := { name := "fnSplitArguments", fn := fun _ => fun
  | [d] => { results := [.lit (.bool true)], args := [d] }
  | _ => none }
def fnSplitArgumentsRow : OpenClaim := { program := "ythbojipdhgidlaa", sum := "ae9be96e0b16454513da91019717da6aa2326b7b9ceec421b1c526a1ac896f94", func := "loop.example/macroprocessor/laws.FnSplitArguments", spec := "fnSplitArguments", inPlace := ["internal/bytealg.IndexByteString"], apart := false }
def FnSplitArgumentsSaid : Prop := fnSplitArgumentsRow.holds Try.pinned (OpenSpec.ofChange fnSplitArgumentsSpec)

/-- ITS FALSE NEIGHBOUR: 'it returns false'. Refute it at one input. -/
def fnSplitArgumentsWrong : ChangeSpec := { name := "fnSplitArguments", fn := fun _ => fun
  | [d] => { results := [.lit (.bool false)], args := [d] }
  | _ => none }
def FnSplitArgumentsWrongFalsely : Prop := fnSplitArgumentsRow.holds Try.pinned (OpenSpec.ofChange fnSplitArgumentsWrong)

/- THE SECOND FORM. 'bulk': how many values and letters a reading holds, each counted each time it is reached (what is shared counts as often as it is met; a slice's spare places count too). A statement '..UptoSaid' is the law's where the arguments, and the package variables that the reading takes, are together of bulk at most 1048576: NARROWER than '..Said'. Prove '..Said' where nothing that the law and all that it calls make is longer than what came in: it says more and counts as full. Else prove '..UptoSaid'. A law counts once. -/
mutual
def uptoBulk {H : Type} : DataW H → Nat
  | .lit (.string bytes) => bytes.length + 1
  | .lit _ => 1
  | .nil => 1
  | .ptr d => uptoBulk d + 1
  | .slice elems spare => uptoBulkAll elems + uptoBulkAll spare + 1
  | .agg parts => uptoBulkAll parts + 1
  | .iface _ d => uptoBulk d + 1
  | .map entries => uptoBulkEntries entries + 1
  | .held _ => 1
def uptoBulkAll {H : Type} : List (DataW H) → Nat
  | [] => 0
  | d :: r => uptoBulk d + uptoBulkAll r
def uptoBulkEntries {H : Type} : List (Lit × DataW H) → Nat
  | [] => 0
  | x :: r => uptoBulkEntry x + uptoBulkEntries r
def uptoBulkEntry {H : Type} : Lit × DataW H → Nat
  | (.string bytes, d) => bytes.length + uptoBulk d + 1
  | (_, d) => uptoBulk d + 1
 end
def uptoSmall : (H : Type) → List (DataW H) → Bool := fun _ ds => decide (uptoBulkAll ds ≤ 1048576)
def OpenSpec.upto (s : _root_.Go.ChangeSpec) : _root_.Go.OpenSpec := { _root_.Go.OpenSpec.ofChange s with cond := some uptoSmall }

/-- 'laws.FnExactArgumentsFit', WHERE WHAT IT READS IS OF BULK AT MOST 1048576: true; the input reads as it did. -/
def fnExactArgumentsFitUptoRow : OpenClaim := { program := "ythbojipdhgidlaa", sum := "ae9be96e0b16454513da91019717da6aa2326b7b9ceec421b1c526a1ac896f94", func := "loop.example/macroprocessor/laws.FnExactArgumentsFit", spec := "fnExactArgumentsFit", inPlace := ["internal/bytealg.IndexByteString"], apart := false, narrowed := true }
def FnExactArgumentsFitUptoSaid : Prop := fnExactArgumentsFitUptoRow.holds Try.pinned (OpenSpec.upto fnExactArgumentsFitSpec)

/-- 'laws.FnArgumentsFit', WHERE WHAT IT READS IS OF BULK AT MOST 1048576: true; the input reads as it did. -/
def fnArgumentsFitUptoRow : OpenClaim := { program := "ythbojipdhgidlaa", sum := "ae9be96e0b16454513da91019717da6aa2326b7b9ceec421b1c526a1ac896f94", func := "loop.example/macroprocessor/laws.FnArgumentsFit", spec := "fnArgumentsFit", inPlace := ["internal/bytealg.IndexByteString"], apart := false, narrowed := true }
def FnArgumentsFitUptoSaid : Prop := fnArgumentsFitUptoRow.holds Try.pinned (OpenSpec.upto fnArgumentsFitSpec)

/-- 'laws.FnExactSplitArguments', WHERE WHAT IT READS IS OF BULK AT MOST 1048576: true; the input reads as it did. -/
def fnExactSplitArgumentsUptoRow : OpenClaim := { program := "ythbojipdhgidlaa", sum := "ae9be96e0b16454513da91019717da6aa2326b7b9ceec421b1c526a1ac896f94", func := "loop.example/macroprocessor/laws.FnExactSplitArguments", spec := "fnExactSplitArguments", inPlace := ["internal/bytealg.IndexByteString"], apart := false, narrowed := true }
def FnExactSplitArgumentsUptoSaid : Prop := fnExactSplitArgumentsUptoRow.holds Try.pinned (OpenSpec.upto fnExactSplitArgumentsSpec)

/-- 'laws.FnSplitArguments', WHERE WHAT IT READS IS OF BULK AT MOST 1048576: true; the input reads as it did. -/
def fnSplitArgumentsUptoRow : OpenClaim := { program := "ythbojipdhgidlaa", sum := "ae9be96e0b16454513da91019717da6aa2326b7b9ceec421b1c526a1ac896f94", func := "loop.example/macroprocessor/laws.FnSplitArguments", spec := "fnSplitArguments", inPlace := ["internal/bytealg.IndexByteString"], apart := false, narrowed := true }
def FnSplitArgumentsUptoSaid : Prop := fnSplitArgumentsUptoRow.holds Try.pinned (OpenSpec.upto fnSplitArgumentsSpec)

end Rows
end Go.Proofs.Ythbojipdhgidlaa
