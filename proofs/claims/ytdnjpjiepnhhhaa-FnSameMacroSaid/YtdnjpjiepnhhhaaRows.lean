/-
  No cell of these rows narrows 'for every input' (looked for: loops, veiled, ifaces, maps, wideKeys, modest, calm, conditions, laid).
  DERIVED. THE GIVEN ROWS OF THIS SEAT. 5 by the template 'for every input the law returns true; each argument reads behind the call as it read before'; 0 by the template 'total and deterministic' (their statements: YtdnjpjiepnhhhaaTotals.lean).
  GIVEN WITH THE SEED: the statements are not yours to turn. If you find one false, say at which input.
  Laid BY PROGRAM, IN A SANDBOX (cutbox-rows.mjs): the forced cells as the released guide's own fill.sh prints them over the translation ad8aefb7d5ea2a2a… (all of the seat's roots in one cut). By AI agents, Wed Nov 11 2026. No macro, syntax, notation, axiom, sorry.
-/
import Derived.Test.YtdnjpjiepnhhhaaChecked
import GoSem.Claim
import GoSem.ClaimJoined
import GoSem.ClaimMapViews
import Derived.JoinedTies
import Derived.KernelRfl
namespace Go.Proofs.Ytdnjpjiepnhhhaa
/- THE CELL 'sum', in the pinned program and in every row, IS THE sha256 OF THE DUMP (.gsa) THAT YtdnjpjiepnhhhaaProg.lean LOADS. Nothing in Lean hashes anything: it is a label: what it is worth is what the hold of that sum in a sandbox is worth. -/
noncomputable def Try.pinned : Pinned := { name := "ytdnjpjiepnhhhaa", sum := "ad8aefb7d5ea2a2ae777afad59ffc696b963b8752d67eded268c7323c3b9b38c", checked := Try.checked }
namespace Rows
def none {H : Type} : Left H := { results := [], args := [] }

/-- 'laws.FnExactMacroOf': WHATEVER THE INPUT: true; the input reads as it did. -/
def fnExactMacroOfSpec : ChangeSpec := { name := "fnExactMacroOf", fn := fun _ => fun
  | [d] => { results := [.lit (.bool true)], args := [d] }
  | _ => none }
def fnExactMacroOfRow : OpenClaim := { program := "ytdnjpjiepnhhhaa", sum := "ad8aefb7d5ea2a2ae777afad59ffc696b963b8752d67eded268c7323c3b9b38c", func := "loop.example/macroprocessor/laws.FnExactMacroOf", spec := "fnExactMacroOf", inPlace := ["internal/bytealg.IndexByteString"], unfollowed := true, recurses := true, apart := false }
def FnExactMacroOfSaid : Prop := fnExactMacroOfRow.holds Try.pinned (OpenSpec.ofChange fnExactMacroOfSpec)

/-- ITS FALSE NEIGHBOUR: 'it returns false'. Refute it at one input. -/
def fnExactMacroOfWrong : ChangeSpec := { name := "fnExactMacroOf", fn := fun _ => fun
  | [d] => { results := [.lit (.bool false)], args := [d] }
  | _ => none }
def FnExactMacroOfWrongFalsely : Prop := fnExactMacroOfRow.holds Try.pinned (OpenSpec.ofChange fnExactMacroOfWrong)

/-- 'laws.FnExactSameMacro': WHATEVER THE INPUT: true; the input reads as it did. -/
def fnExactSameMacroSpec : ChangeSpec := { name := "fnExactSameMacro", fn := fun _ => fun
  | [d1, d2] => { results := [.lit (.bool true)], args := [d1, d2] }
  | _ => none }
def fnExactSameMacroRow : OpenClaim := { program := "ytdnjpjiepnhhhaa", sum := "ad8aefb7d5ea2a2ae777afad59ffc696b963b8752d67eded268c7323c3b9b38c", func := "loop.example/macroprocessor/laws.FnExactSameMacro", spec := "fnExactSameMacro", apart := false }
def FnExactSameMacroSaid : Prop := fnExactSameMacroRow.holds Try.pinned (OpenSpec.ofChange fnExactSameMacroSpec)

/-- ITS FALSE NEIGHBOUR: 'it returns false'. Refute it at one input. -/
def fnExactSameMacroWrong : ChangeSpec := { name := "fnExactSameMacro", fn := fun _ => fun
  | [d1, d2] => { results := [.lit (.bool false)], args := [d1, d2] }
  | _ => none }
def FnExactSameMacroWrongFalsely : Prop := fnExactSameMacroRow.holds Try.pinned (OpenSpec.ofChange fnExactSameMacroWrong)

/-- 'laws.FnMacroText': WHATEVER THE INPUT: true; the input reads as it did. -/
def fnMacroTextSpec : ChangeSpec := { name := "fnMacroText", fn := fun _ => fun
  | [d] => { results := [.lit (.bool true)], args := [d] }
  | _ => none }
def fnMacroTextRow : OpenClaim := { program := "ytdnjpjiepnhhhaa", sum := "ad8aefb7d5ea2a2ae777afad59ffc696b963b8752d67eded268c7323c3b9b38c", func := "loop.example/macroprocessor/laws.FnMacroText", spec := "fnMacroText", inPlace := ["internal/bytealg.IndexByteString", "internal/abi.NoEscape", "internal/bytealg.MakeNoZero"], unfollowed := true, recurses := true, apart := false }
def FnMacroTextSaid : Prop := fnMacroTextRow.holds Try.pinned (OpenSpec.ofChange fnMacroTextSpec)

/-- ITS FALSE NEIGHBOUR: 'it returns false'. Refute it at one input. -/
def fnMacroTextWrong : ChangeSpec := { name := "fnMacroText", fn := fun _ => fun
  | [d] => { results := [.lit (.bool false)], args := [d] }
  | _ => none }
def FnMacroTextWrongFalsely : Prop := fnMacroTextRow.holds Try.pinned (OpenSpec.ofChange fnMacroTextWrong)

/-- 'laws.FnMacroOf': WHATEVER THE INPUT: true; the input reads as it did. -/
def fnMacroOfSpec : ChangeSpec := { name := "fnMacroOf", fn := fun _ => fun
  | [d] => { results := [.lit (.bool true)], args := [d] }
  | _ => none }
def fnMacroOfRow : OpenClaim := { program := "ytdnjpjiepnhhhaa", sum := "ad8aefb7d5ea2a2ae777afad59ffc696b963b8752d67eded268c7323c3b9b38c", func := "loop.example/macroprocessor/laws.FnMacroOf", spec := "fnMacroOf", inPlace := ["internal/bytealg.IndexByteString", "internal/abi.NoEscape", "internal/bytealg.MakeNoZero"], unfollowed := true, recurses := true, apart := false }
def FnMacroOfSaid : Prop := fnMacroOfRow.holds Try.pinned (OpenSpec.ofChange fnMacroOfSpec)

/-- ITS FALSE NEIGHBOUR: 'it returns false'. Refute it at one input. -/
def fnMacroOfWrong : ChangeSpec := { name := "fnMacroOf", fn := fun _ => fun
  | [d] => { results := [.lit (.bool false)], args := [d] }
  | _ => none }
def FnMacroOfWrongFalsely : Prop := fnMacroOfRow.holds Try.pinned (OpenSpec.ofChange fnMacroOfWrong)

/-- 'laws.FnSameMacro': WHATEVER THE INPUT: true; the input reads as it did. -/
def fnSameMacroSpec : ChangeSpec := { name := "fnSameMacro", fn := fun _ => fun
  | [d] => { results := [.lit (.bool true)], args := [d] }
  | _ => none }
def fnSameMacroRow : OpenClaim := { program := "ytdnjpjiepnhhhaa", sum := "ad8aefb7d5ea2a2ae777afad59ffc696b963b8752d67eded268c7323c3b9b38c", func := "loop.example/macroprocessor/laws.FnSameMacro", spec := "fnSameMacro", apart := false }
def FnSameMacroSaid : Prop := fnSameMacroRow.holds Try.pinned (OpenSpec.ofChange fnSameMacroSpec)

/-- ITS FALSE NEIGHBOUR: 'it returns false'. Refute it at one input. -/
def fnSameMacroWrong : ChangeSpec := { name := "fnSameMacro", fn := fun _ => fun
  | [d] => { results := [.lit (.bool false)], args := [d] }
  | _ => none }
def FnSameMacroWrongFalsely : Prop := fnSameMacroRow.holds Try.pinned (OpenSpec.ofChange fnSameMacroWrong)

/- THE SECOND FORM. 'bulk': how many values and letters a reading holds, each counted each time it is reached (what is shared counts as often as it is met; a slice's spare places count too). A statement '..UptoSaid' is the law's where the arguments, and the package variables that the reading takes, are together of bulk at most 1048576: NARROWER than '..Said'. Prove '..Said' where nothing that the law and all that it calls make is longer than what came in: it says more and counts as full. Else prove '..UptoSaid'. A law counts once. -/
mutual
def uptoBulk {H : Type} : DataW H → Nat
  | .lit (.string bytes) => bytes.length + 1
  | .lit _ => 1
  | .nil => 1
  | .ptr d => uptoBulk d + 1
  | .slice elems spare => uptoBulkAll elems + uptoBulkAll spare + 1
  | .agg parts => uptoBulkAll parts + 1
  | .iface _ d => uptoBulk d + 1
  | .map entries => uptoBulkEntries entries + 1
  | .held _ => 1
def uptoBulkAll {H : Type} : List (DataW H) → Nat
  | [] => 0
  | d :: r => uptoBulk d + uptoBulkAll r
def uptoBulkEntries {H : Type} : List (Lit × DataW H) → Nat
  | [] => 0
  | x :: r => uptoBulkEntry x + uptoBulkEntries r
def uptoBulkEntry {H : Type} : Lit × DataW H → Nat
  | (.string bytes, d) => bytes.length + uptoBulk d + 1
  | (_, d) => uptoBulk d + 1
 end
def uptoSmall : (H : Type) → List (DataW H) → Bool := fun _ ds => decide (uptoBulkAll ds ≤ 1048576)
def OpenSpec.upto (s : _root_.Go.ChangeSpec) : _root_.Go.OpenSpec := { _root_.Go.OpenSpec.ofChange s with cond := some uptoSmall }

/-- 'laws.FnExactMacroOf', WHERE WHAT IT READS IS OF BULK AT MOST 1048576: true; the input reads as it did. -/
def fnExactMacroOfUptoRow : OpenClaim := { program := "ytdnjpjiepnhhhaa", sum := "ad8aefb7d5ea2a2ae777afad59ffc696b963b8752d67eded268c7323c3b9b38c", func := "loop.example/macroprocessor/laws.FnExactMacroOf", spec := "fnExactMacroOf", inPlace := ["internal/bytealg.IndexByteString"], unfollowed := true, recurses := true, apart := false, narrowed := true }
def FnExactMacroOfUptoSaid : Prop := fnExactMacroOfUptoRow.holds Try.pinned (OpenSpec.upto fnExactMacroOfSpec)

/-- 'laws.FnExactSameMacro', WHERE WHAT IT READS IS OF BULK AT MOST 1048576: true; the input reads as it did. -/
def fnExactSameMacroUptoRow : OpenClaim := { program := "ytdnjpjiepnhhhaa", sum := "ad8aefb7d5ea2a2ae777afad59ffc696b963b8752d67eded268c7323c3b9b38c", func := "loop.example/macroprocessor/laws.FnExactSameMacro", spec := "fnExactSameMacro", apart := false, narrowed := true }
def FnExactSameMacroUptoSaid : Prop := fnExactSameMacroUptoRow.holds Try.pinned (OpenSpec.upto fnExactSameMacroSpec)

/-- 'laws.FnMacroText', WHERE WHAT IT READS IS OF BULK AT MOST 1048576: true; the input reads as it did. -/
def fnMacroTextUptoRow : OpenClaim := { program := "ytdnjpjiepnhhhaa", sum := "ad8aefb7d5ea2a2ae777afad59ffc696b963b8752d67eded268c7323c3b9b38c", func := "loop.example/macroprocessor/laws.FnMacroText", spec := "fnMacroText", inPlace := ["internal/bytealg.IndexByteString", "internal/abi.NoEscape", "internal/bytealg.MakeNoZero"], unfollowed := true, recurses := true, apart := false, narrowed := true }
def FnMacroTextUptoSaid : Prop := fnMacroTextUptoRow.holds Try.pinned (OpenSpec.upto fnMacroTextSpec)

/-- 'laws.FnMacroOf', WHERE WHAT IT READS IS OF BULK AT MOST 1048576: true; the input reads as it did. -/
def fnMacroOfUptoRow : OpenClaim := { program := "ytdnjpjiepnhhhaa", sum := "ad8aefb7d5ea2a2ae777afad59ffc696b963b8752d67eded268c7323c3b9b38c", func := "loop.example/macroprocessor/laws.FnMacroOf", spec := "fnMacroOf", inPlace := ["internal/bytealg.IndexByteString", "internal/abi.NoEscape", "internal/bytealg.MakeNoZero"], unfollowed := true, recurses := true, apart := false, narrowed := true }
def FnMacroOfUptoSaid : Prop := fnMacroOfUptoRow.holds Try.pinned (OpenSpec.upto fnMacroOfSpec)

/-- 'laws.FnSameMacro', WHERE WHAT IT READS IS OF BULK AT MOST 1048576: true; the input reads as it did. -/
def fnSameMacroUptoRow : OpenClaim := { program := "ytdnjpjiepnhhhaa", sum := "ad8aefb7d5ea2a2ae777afad59ffc696b963b8752d67eded268c7323c3b9b38c", func := "loop.example/macroprocessor/laws.FnSameMacro", spec := "fnSameMacro", apart := false, narrowed := true }
def FnSameMacroUptoSaid : Prop := fnSameMacroUptoRow.holds Try.pinned (OpenSpec.upto fnSameMacroSpec)

end Rows
end Go.Proofs.Ytdnjpjiepnhhhaa
