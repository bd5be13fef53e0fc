/-
  No cell of these rows narrows 'for every input' (looked for: loops, veiled, ifaces, maps, wideKeys, modest, calm, conditions, laid).
  DERIVED. THE GIVEN ROWS OF THIS SEAT. 7 by the template 'for every input the law returns true; each argument reads behind the call as it read before'; 0 by the template 'total and deterministic' (their statements: YtkamfppefmpacaaTotals.lean).
  GIVEN WITH THE SEED: the statements are not yours to turn. If you find one false, say at which input.
  Laid BY PROGRAM, IN A SANDBOX (cutbox-rows.mjs): the forced cells as the released guide's own fill.sh prints them over the translation 494d6cf2c5b38b4f… (all of the seat's roots in one cut). By AI agents, Wed Nov 11 2026. No macro, syntax, notation, axiom, sorry.
-/
import Derived.Test.YtkamfppefmpacaaChecked
import GoSem.Claim
import GoSem.ClaimJoined
import GoSem.ClaimMapViews
import Derived.JoinedTies
import Derived.KernelRfl
namespace Go.Proofs.Ytkamfppefmpacaa
/- THE CELL 'sum', in the pinned program and in every row, IS THE sha256 OF THE DUMP (.gsa) THAT YtkamfppefmpacaaProg.lean LOADS. Nothing in Lean hashes anything: it is a label: what it is worth is what the hold of that sum in a sandbox is worth. -/
noncomputable def Try.pinned : Pinned := { name := "ytkamfppefmpacaa", sum := "494d6cf2c5b38b4f3b52b7eca69870298ab1269de45e72a8e0f8dd811a10f2ac", checked := Try.checked }
namespace Rows
def none {H : Type} : Left H := { results := [], args := [] }

/-- 'laws.FnTokensOf': WHATEVER THE INPUT: true; the input reads as it did. -/
def fnTokensOfSpec : ChangeSpec := { name := "fnTokensOf", fn := fun _ => fun
  | [d] => { results := [.lit (.bool true)], args := [d] }
  | _ => none }
def fnTokensOfRow : OpenClaim := { program := "ytkamfppefmpacaa", sum := "494d6cf2c5b38b4f3b52b7eca69870298ab1269de45e72a8e0f8dd811a10f2ac", func := "loop.example/macroprocessor/laws.FnTokensOf", spec := "fnTokensOf", inPlace := ["internal/bytealg.IndexByteString", "internal/abi.NoEscape"], apart := false }
def FnTokensOfSaid : Prop := fnTokensOfRow.holds Try.pinned (OpenSpec.ofChange fnTokensOfSpec)

/-- ITS FALSE NEIGHBOUR: 'it returns false'. Refute it at one input. -/
def fnTokensOfWrong : ChangeSpec := { name := "fnTokensOf", fn := fun _ => fun
  | [d] => { results := [.lit (.bool false)], args := [d] }
  | _ => none }
def FnTokensOfWrongFalsely : Prop := fnTokensOfRow.holds Try.pinned (OpenSpec.ofChange fnTokensOfWrong)

/-- 'laws.FnTokensValid': WHATEVER THE INPUT: true; the input reads as it did. -/
def fnTokensValidSpec : ChangeSpec := { name := "fnTokensValid", fn := fun _ => fun
  | [d] => { results := [.lit (.bool true)], args := [d] }
  | _ => none }
def fnTokensValidRow : OpenClaim := { program := "ytkamfppefmpacaa", sum := "494d6cf2c5b38b4f3b52b7eca69870298ab1269de45e72a8e0f8dd811a10f2ac", func := "loop.example/macroprocessor/laws.FnTokensValid", spec := "fnTokensValid", inPlace := ["internal/bytealg.IndexByteString"], apart := false }
def FnTokensValidSaid : Prop := fnTokensValidRow.holds Try.pinned (OpenSpec.ofChange fnTokensValidSpec)

/-- ITS FALSE NEIGHBOUR: 'it returns false'. Refute it at one input. -/
def fnTokensValidWrong : ChangeSpec := { name := "fnTokensValid", fn := fun _ => fun
  | [d] => { results := [.lit (.bool false)], args := [d] }
  | _ => none }
def FnTokensValidWrongFalsely : Prop := fnTokensValidRow.holds Try.pinned (OpenSpec.ofChange fnTokensValidWrong)

/-- 'laws.FnPrintTokens': WHATEVER THE INPUT: true; the input reads as it did. -/
def fnPrintTokensSpec : ChangeSpec := { name := "fnPrintTokens", fn := fun _ => fun
  | [d] => { results := [.lit (.bool true)], args := [d] }
  | _ => none }
def fnPrintTokensRow : OpenClaim := { program := "ytkamfppefmpacaa", sum := "494d6cf2c5b38b4f3b52b7eca69870298ab1269de45e72a8e0f8dd811a10f2ac", func := "loop.example/macroprocessor/laws.FnPrintTokens", spec := "fnPrintTokens", inPlace := ["internal/bytealg.IndexByteString", "internal/abi.NoEscape"], apart := false }
def FnPrintTokensSaid : Prop := fnPrintTokensRow.holds Try.pinned (OpenSpec.ofChange fnPrintTokensSpec)

/-- ITS FALSE NEIGHBOUR: 'it returns false'. Refute it at one input. -/
def fnPrintTokensWrong : ChangeSpec := { name := "fnPrintTokens", fn := fun _ => fun
  | [d] => { results := [.lit (.bool false)], args := [d] }
  | _ => none }
def FnPrintTokensWrongFalsely : Prop := fnPrintTokensRow.holds Try.pinned (OpenSpec.ofChange fnPrintTokensWrong)

/-- 'laws.FnSameTexts': WHATEVER THE INPUT: true; the input reads as it did. -/
def fnSameTextsSpec : ChangeSpec := { name := "fnSameTexts", fn := fun _ => fun
  | [d] => { results := [.lit (.bool true)], args := [d] }
  | _ => none }
def fnSameTextsRow : OpenClaim := { program := "ytkamfppefmpacaa", sum := "494d6cf2c5b38b4f3b52b7eca69870298ab1269de45e72a8e0f8dd811a10f2ac", func := "loop.example/macroprocessor/laws.FnSameTexts", spec := "fnSameTexts", apart := false }
def FnSameTextsSaid : Prop := fnSameTextsRow.holds Try.pinned (OpenSpec.ofChange fnSameTextsSpec)

/-- ITS FALSE NEIGHBOUR: 'it returns false'. Refute it at one input. -/
def fnSameTextsWrong : ChangeSpec := { name := "fnSameTexts", fn := fun _ => fun
  | [d] => { results := [.lit (.bool false)], args := [d] }
  | _ => none }
def FnSameTextsWrongFalsely : Prop := fnSameTextsRow.holds Try.pinned (OpenSpec.ofChange fnSameTextsWrong)

/-- 'laws.FnExactTokensValid': WHATEVER THE INPUT: true; the input reads as it did. -/
def fnExactTokensValidSpec : ChangeSpec := { name := "fnExactTokensValid", fn := fun _ => fun
  | [d] => { results := [.lit (.bool true)], args := [d] }
  | _ => none }
def fnExactTokensValidRow : OpenClaim := { program := "ytkamfppefmpacaa", sum := "494d6cf2c5b38b4f3b52b7eca69870298ab1269de45e72a8e0f8dd811a10f2ac", func := "loop.example/macroprocessor/laws.FnExactTokensValid", spec := "fnExactTokensValid", inPlace := ["internal/bytealg.IndexByteString"], apart := false }
def FnExactTokensValidSaid : Prop := fnExactTokensValidRow.holds Try.pinned (OpenSpec.ofChange fnExactTokensValidSpec)

/-- ITS FALSE NEIGHBOUR: 'it returns false'. Refute it at one input. -/
def fnExactTokensValidWrong : ChangeSpec := { name := "fnExactTokensValid", fn := fun _ => fun
  | [d] => { results := [.lit (.bool false)], args := [d] }
  | _ => none }
def FnExactTokensValidWrongFalsely : Prop := fnExactTokensValidRow.holds Try.pinned (OpenSpec.ofChange fnExactTokensValidWrong)

/-- 'laws.FnExactPrintTokens': WHATEVER THE INPUT: true; the input reads as it did. -/
def fnExactPrintTokensSpec : ChangeSpec := { name := "fnExactPrintTokens", fn := fun _ => fun
  | [d] => { results := [.lit (.bool true)], args := [d] }
  | _ => none }
def fnExactPrintTokensRow : OpenClaim := { program := "ytkamfppefmpacaa", sum := "494d6cf2c5b38b4f3b52b7eca69870298ab1269de45e72a8e0f8dd811a10f2ac", func := "loop.example/macroprocessor/laws.FnExactPrintTokens", spec := "fnExactPrintTokens", inPlace := ["internal/bytealg.IndexByteString", "internal/abi.NoEscape"], apart := false }
def FnExactPrintTokensSaid : Prop := fnExactPrintTokensRow.holds Try.pinned (OpenSpec.ofChange fnExactPrintTokensSpec)

/-- ITS FALSE NEIGHBOUR: 'it returns false'. Refute it at one input. -/
def fnExactPrintTokensWrong : ChangeSpec := { name := "fnExactPrintTokens", fn := fun _ => fun
  | [d] => { results := [.lit (.bool false)], args := [d] }
  | _ => none }
def FnExactPrintTokensWrongFalsely : Prop := fnExactPrintTokensRow.holds Try.pinned (OpenSpec.ofChange fnExactPrintTokensWrong)

/-- 'laws.FnExactSameTexts': WHATEVER THE INPUT: true; the input reads as it did. -/
def fnExactSameTextsSpec : ChangeSpec := { name := "fnExactSameTexts", fn := fun _ => fun
  | [d1, d2] => { results := [.lit (.bool true)], args := [d1, d2] }
  | _ => none }
def fnExactSameTextsRow : OpenClaim := { program := "ytkamfppefmpacaa", sum := "494d6cf2c5b38b4f3b52b7eca69870298ab1269de45e72a8e0f8dd811a10f2ac", func := "loop.example/macroprocessor/laws.FnExactSameTexts", spec := "fnExactSameTexts", apart := false }
def FnExactSameTextsSaid : Prop := fnExactSameTextsRow.holds Try.pinned (OpenSpec.ofChange fnExactSameTextsSpec)

/-- ITS FALSE NEIGHBOUR: 'it returns false'. Refute it at one input. -/
def fnExactSameTextsWrong : ChangeSpec := { name := "fnExactSameTexts", fn := fun _ => fun
  | [d1, d2] => { results := [.lit (.bool false)], args := [d1, d2] }
  | _ => none }
def FnExactSameTextsWrongFalsely : Prop := fnExactSameTextsRow.holds Try.pinned (OpenSpec.ofChange fnExactSameTextsWrong)

/- THE SECOND FORM. 'bulk': how many values and letters a reading holds, each counted each time it is reached (what is shared counts as often as it is met; a slice's spare places count too). A statement '..UptoSaid' is the law's where the arguments, and the package variables that the reading takes, are together of bulk at most 1048576: NARROWER than '..Said'. Prove '..Said' where nothing that the law and all that it calls make is longer than what came in: it says more and counts as full. Else prove '..UptoSaid'. A law counts once. -/
mutual
def uptoBulk {H : Type} : DataW H → Nat
  | .lit (.string bytes) => bytes.length + 1
  | .lit _ => 1
  | .nil => 1
  | .ptr d => uptoBulk d + 1
  | .slice elems spare => uptoBulkAll elems + uptoBulkAll spare + 1
  | .agg parts => uptoBulkAll parts + 1
  | .iface _ d => uptoBulk d + 1
  | .map entries => uptoBulkEntries entries + 1
  | .held _ => 1
def uptoBulkAll {H : Type} : List (DataW H) → Nat
  | [] => 0
  | d :: r => uptoBulk d + uptoBulkAll r
def uptoBulkEntries {H : Type} : List (Lit × DataW H) → Nat
  | [] => 0
  | x :: r => uptoBulkEntry x + uptoBulkEntries r
def uptoBulkEntry {H : Type} : Lit × DataW H → Nat
  | (.string bytes, d) => bytes.length + uptoBulk d + 1
  | (_, d) => uptoBulk d + 1
 end
def uptoSmall : (H : Type) → List (DataW H) → Bool := fun _ ds => decide (uptoBulkAll ds ≤ 1048576)
def OpenSpec.upto (s : _root_.Go.ChangeSpec) : _root_.Go.OpenSpec := { _root_.Go.OpenSpec.ofChange s with cond := some uptoSmall }

/-- 'laws.FnTokensOf', WHERE WHAT IT READS IS OF BULK AT MOST 1048576: true; the input reads as it did. -/
def fnTokensOfUptoRow : OpenClaim := { program := "ytkamfppefmpacaa", sum := "494d6cf2c5b38b4f3b52b7eca69870298ab1269de45e72a8e0f8dd811a10f2ac", func := "loop.example/macroprocessor/laws.FnTokensOf", spec := "fnTokensOf", inPlace := ["internal/bytealg.IndexByteString", "internal/abi.NoEscape"], apart := false, narrowed := true }
def FnTokensOfUptoSaid : Prop := fnTokensOfUptoRow.holds Try.pinned (OpenSpec.upto fnTokensOfSpec)

/-- 'laws.FnTokensValid', WHERE WHAT IT READS IS OF BULK AT MOST 1048576: true; the input reads as it did. -/
def fnTokensValidUptoRow : OpenClaim := { program := "ytkamfppefmpacaa", sum := "494d6cf2c5b38b4f3b52b7eca69870298ab1269de45e72a8e0f8dd811a10f2ac", func := "loop.example/macroprocessor/laws.FnTokensValid", spec := "fnTokensValid", inPlace := ["internal/bytealg.IndexByteString"], apart := false, narrowed := true }
def FnTokensValidUptoSaid : Prop := fnTokensValidUptoRow.holds Try.pinned (OpenSpec.upto fnTokensValidSpec)

/-- 'laws.FnPrintTokens', WHERE WHAT IT READS IS OF BULK AT MOST 1048576: true; the input reads as it did. -/
def fnPrintTokensUptoRow : OpenClaim := { program := "ytkamfppefmpacaa", sum := "494d6cf2c5b38b4f3b52b7eca69870298ab1269de45e72a8e0f8dd811a10f2ac", func := "loop.example/macroprocessor/laws.FnPrintTokens", spec := "fnPrintTokens", inPlace := ["internal/bytealg.IndexByteString", "internal/abi.NoEscape"], apart := false, narrowed := true }
def FnPrintTokensUptoSaid : Prop := fnPrintTokensUptoRow.holds Try.pinned (OpenSpec.upto fnPrintTokensSpec)

/-- 'laws.FnSameTexts', WHERE WHAT IT READS IS OF BULK AT MOST 1048576: true; the input reads as it did. -/
def fnSameTextsUptoRow : OpenClaim := { program := "ytkamfppefmpacaa", sum := "494d6cf2c5b38b4f3b52b7eca69870298ab1269de45e72a8e0f8dd811a10f2ac", func := "loop.example/macroprocessor/laws.FnSameTexts", spec := "fnSameTexts", apart := false, narrowed := true }
def FnSameTextsUptoSaid : Prop := fnSameTextsUptoRow.holds Try.pinned (OpenSpec.upto fnSameTextsSpec)

/-- 'laws.FnExactTokensValid', WHERE WHAT IT READS IS OF BULK AT MOST 1048576: true; the input reads as it did. -/
def fnExactTokensValidUptoRow : OpenClaim := { program := "ytkamfppefmpacaa", sum := "494d6cf2c5b38b4f3b52b7eca69870298ab1269de45e72a8e0f8dd811a10f2ac", func := "loop.example/macroprocessor/laws.FnExactTokensValid", spec := "fnExactTokensValid", inPlace := ["internal/bytealg.IndexByteString"], apart := false, narrowed := true }
def FnExactTokensValidUptoSaid : Prop := fnExactTokensValidUptoRow.holds Try.pinned (OpenSpec.upto fnExactTokensValidSpec)

/-- 'laws.FnExactPrintTokens', WHERE WHAT IT READS IS OF BULK AT MOST 1048576: true; the input reads as it did. -/
def fnExactPrintTokensUptoRow : OpenClaim := { program := "ytkamfppefmpacaa", sum := "494d6cf2c5b38b4f3b52b7eca69870298ab1269de45e72a8e0f8dd811a10f2ac", func := "loop.example/macroprocessor/laws.FnExactPrintTokens", spec := "fnExactPrintTokens", inPlace := ["internal/bytealg.IndexByteString", "internal/abi.NoEscape"], apart := false, narrowed := true }
def FnExactPrintTokensUptoSaid : Prop := fnExactPrintTokensUptoRow.holds Try.pinned (OpenSpec.upto fnExactPrintTokensSpec)

/-- 'laws.FnExactSameTexts', WHERE WHAT IT READS IS OF BULK AT MOST 1048576: true; the input reads as it did. -/
def fnExactSameTextsUptoRow : OpenClaim := { program := "ytkamfppefmpacaa", sum := "494d6cf2c5b38b4f3b52b7eca69870298ab1269de45e72a8e0f8dd811a10f2ac", func := "loop.example/macroprocessor/laws.FnExactSameTexts", spec := "fnExactSameTexts", apart := false, narrowed := true }
def FnExactSameTextsUptoSaid : Prop := fnExactSameTextsUptoRow.holds Try.pinned (OpenSpec.upto fnExactSameTextsSpec)

end Rows
end Go.Proofs.Ytkamfppefmpacaa
