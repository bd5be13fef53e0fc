/-
  No cell of these rows narrows 'for every input' (looked for: loops, veiled, ifaces, maps, wideKeys, modest, calm, conditions, laid).
  DERIVED. THE GIVEN ROWS OF THIS SEAT. 4 by the template 'for every input the law returns true; each argument reads behind the call as it read before'; 0 by the template 'total and deterministic' (their statements: YtbkmapaieillmaaTotals.lean).
  GIVEN WITH THE SEED: the statements are not yours to turn. If you find one false, say at which input.
  Laid BY PROGRAM, IN A SANDBOX (cutbox-rows.mjs): the forced cells as the released guide's own fill.sh prints them over the translation 1af7ba0c9e566c28… (all of the seat's roots in one cut). By AI agents, Wed Nov 11 2026. No macro, syntax, notation, axiom, sorry.
-/
import Derived.Test.YtbkmapaieillmaaChecked
import GoSem.Claim
import GoSem.ClaimJoined
import GoSem.ClaimMapViews
import Derived.JoinedTies
import Derived.KernelRfl
namespace Go.Proofs.Ytbkmapaieillmaa
/- THE CELL 'sum', in the pinned program and in every row, IS THE sha256 OF THE DUMP (.gsa) THAT YtbkmapaieillmaaProg.lean LOADS. Nothing in Lean hashes anything: it is a label: what it is worth is what the hold of that sum in a sandbox is worth. -/
noncomputable def Try.pinned : Pinned := { name := "ytbkmapaieillmaa", sum := "1af7ba0c9e566c28c28fccbc3b0eb7fd9a0cdcc54a94d750c0106b3162b125fd", checked := Try.checked }
namespace Rows
def none {H : Type} : Left H := { results := [], args := [] }

/-- 'laws.FnPasteTokens': WHATEVER THE INPUT: true; the input reads as it did. -/
def fnPasteTokensSpec : ChangeSpec := { name := "fnPasteTokens", fn := fun _ => fun
  | [d] => { results := [.lit (.bool true)], args := [d] }
  | _ => none }
def fnPasteTokensRow : OpenClaim := { program := "ytbkmapaieillmaa", sum := "1af7ba0c9e566c28c28fccbc3b0eb7fd9a0cdcc54a94d750c0106b3162b125fd", func := "loop.example/macroprocessor/laws.FnPasteTokens", spec := "fnPasteTokens", inPlace := ["internal/bytealg.IndexByteString"], apart := false }
def FnPasteTokensSaid : Prop := fnPasteTokensRow.holds Try.pinned (OpenSpec.ofChange fnPasteTokensSpec)

/-- ITS FALSE NEIGHBOUR: 'it returns false'. Refute it at one input. -/
def fnPasteTokensWrong : ChangeSpec := { name := "fnPasteTokens", fn := fun _ => fun
  | [d] => { results := [.lit (.bool false)], args := [d] }
  | _ => none }
def FnPasteTokensWrongFalsely : Prop := fnPasteTokensRow.holds Try.pinned (OpenSpec.ofChange fnPasteTokensWrong)

/-- 'laws.FnHideName': WHATEVER THE INPUT: true; the input reads as it did. -/
def fnHideNameSpec : ChangeSpec := { name := "fnHideName", fn := fun _ => fun
  | [d] => { results := [.lit (.bool true)], args := [d] }
  | _ => none }
def fnHideNameRow : OpenClaim := { program := "ytbkmapaieillmaa", sum := "1af7ba0c9e566c28c28fccbc3b0eb7fd9a0cdcc54a94d750c0106b3162b125fd", func := "loop.example/macroprocessor/laws.FnHideName", spec := "fnHideName", inPlace := ["internal/bytealg.IndexByteString", "slices.overlaps[string]"], apart := false }
def FnHideNameSaid : Prop := fnHideNameRow.holds Try.pinned (OpenSpec.ofChange fnHideNameSpec)

/-- ITS FALSE NEIGHBOUR: 'it returns false'. Refute it at one input. -/
def fnHideNameWrong : ChangeSpec := { name := "fnHideName", fn := fun _ => fun
  | [d] => { results := [.lit (.bool false)], args := [d] }
  | _ => none }
def FnHideNameWrongFalsely : Prop := fnHideNameRow.holds Try.pinned (OpenSpec.ofChange fnHideNameWrong)

/-- 'laws.FnExactPasteTokens': WHATEVER THE INPUT: true; the input reads as it did. -/
def fnExactPasteTokensSpec : ChangeSpec := { name := "fnExactPasteTokens", fn := fun _ => fun
  | [d1, d2] => { results := [.lit (.bool true)], args := [d1, d2] }
  | _ => none }
def fnExactPasteTokensRow : OpenClaim := { program := "ytbkmapaieillmaa", sum := "1af7ba0c9e566c28c28fccbc3b0eb7fd9a0cdcc54a94d750c0106b3162b125fd", func := "loop.example/macroprocessor/laws.FnExactPasteTokens", spec := "fnExactPasteTokens", inPlace := ["internal/bytealg.IndexByteString"], apart := false }
def FnExactPasteTokensSaid : Prop := fnExactPasteTokensRow.holds Try.pinned (OpenSpec.ofChange fnExactPasteTokensSpec)

/-- ITS FALSE NEIGHBOUR: 'it returns false'. Refute it at one input. -/
def fnExactPasteTokensWrong : ChangeSpec := { name := "fnExactPasteTokens", fn := fun _ => fun
  | [d1, d2] => { results := [.lit (.bool false)], args := [d1, d2] }
  | _ => none }
def FnExactPasteTokensWrongFalsely : Prop := fnExactPasteTokensRow.holds Try.pinned (OpenSpec.ofChange fnExactPasteTokensWrong)

/-- 'laws.FnExactHideName': WHATEVER THE INPUT: true; the input reads as it did. -/
def fnExactHideNameSpec : ChangeSpec := { name := "fnExactHideName", fn := fun _ => fun
  | [d1, d2] => { results := [.lit (.bool true)], args := [d1, d2] }
  | _ => none }
def fnExactHideNameRow : OpenClaim := { program := "ytbkmapaieillmaa", sum := "1af7ba0c9e566c28c28fccbc3b0eb7fd9a0cdcc54a94d750c0106b3162b125fd", func := "loop.example/macroprocessor/laws.FnExactHideName", spec := "fnExactHideName", inPlace := ["internal/bytealg.IndexByteString", "slices.overlaps[string]"], apart := false }
def FnExactHideNameSaid : Prop := fnExactHideNameRow.holds Try.pinned (OpenSpec.ofChange fnExactHideNameSpec)

/-- ITS FALSE NEIGHBOUR: 'it returns false'. Refute it at one input. -/
def fnExactHideNameWrong : ChangeSpec := { name := "fnExactHideName", fn := fun _ => fun
  | [d1, d2] => { results := [.lit (.bool false)], args := [d1, d2] }
  | _ => none }
def FnExactHideNameWrongFalsely : Prop := fnExactHideNameRow.holds Try.pinned (OpenSpec.ofChange fnExactHideNameWrong)

/- THE SECOND FORM. 'bulk': how many values and letters a reading holds, each counted each time it is reached (what is shared counts as often as it is met; a slice's spare places count too). A statement '..UptoSaid' is the law's where the arguments, and the package variables that the reading takes, are together of bulk at most 1048576: NARROWER than '..Said'. Prove '..Said' where nothing that the law and all that it calls make is longer than what came in: it says more and counts as full. Else prove '..UptoSaid'. A law counts once. -/
mutual
def uptoBulk {H : Type} : DataW H → Nat
  | .lit (.string bytes) => bytes.length + 1
  | .lit _ => 1
  | .nil => 1
  | .ptr d => uptoBulk d + 1
  | .slice elems spare => uptoBulkAll elems + uptoBulkAll spare + 1
  | .agg parts => uptoBulkAll parts + 1
  | .iface _ d => uptoBulk d + 1
  | .map entries => uptoBulkEntries entries + 1
  | .held _ => 1
def uptoBulkAll {H : Type} : List (DataW H) → Nat
  | [] => 0
  | d :: r => uptoBulk d + uptoBulkAll r
def uptoBulkEntries {H : Type} : List (Lit × DataW H) → Nat
  | [] => 0
  | x :: r => uptoBulkEntry x + uptoBulkEntries r
def uptoBulkEntry {H : Type} : Lit × DataW H → Nat
  | (.string bytes, d) => bytes.length + uptoBulk d + 1
  | (_, d) => uptoBulk d + 1
 end
def uptoSmall : (H : Type) → List (DataW H) → Bool := fun _ ds => decide (uptoBulkAll ds ≤ 1048576)
def OpenSpec.upto (s : _root_.Go.ChangeSpec) : _root_.Go.OpenSpec := { _root_.Go.OpenSpec.ofChange s with cond := some uptoSmall }

/-- 'laws.FnPasteTokens', WHERE WHAT IT READS IS OF BULK AT MOST 1048576: true; the input reads as it did. -/
def fnPasteTokensUptoRow : OpenClaim := { program := "ytbkmapaieillmaa", sum := "1af7ba0c9e566c28c28fccbc3b0eb7fd9a0cdcc54a94d750c0106b3162b125fd", func := "loop.example/macroprocessor/laws.FnPasteTokens", spec := "fnPasteTokens", inPlace := ["internal/bytealg.IndexByteString"], apart := false, narrowed := true }
def FnPasteTokensUptoSaid : Prop := fnPasteTokensUptoRow.holds Try.pinned (OpenSpec.upto fnPasteTokensSpec)

/-- 'laws.FnHideName', WHERE WHAT IT READS IS OF BULK AT MOST 1048576: true; the input reads as it did. -/
def fnHideNameUptoRow : OpenClaim := { program := "ytbkmapaieillmaa", sum := "1af7ba0c9e566c28c28fccbc3b0eb7fd9a0cdcc54a94d750c0106b3162b125fd", func := "loop.example/macroprocessor/laws.FnHideName", spec := "fnHideName", inPlace := ["internal/bytealg.IndexByteString", "slices.overlaps[string]"], apart := false, narrowed := true }
def FnHideNameUptoSaid : Prop := fnHideNameUptoRow.holds Try.pinned (OpenSpec.upto fnHideNameSpec)

/-- 'laws.FnExactPasteTokens', WHERE WHAT IT READS IS OF BULK AT MOST 1048576: true; the input reads as it did. -/
def fnExactPasteTokensUptoRow : OpenClaim := { program := "ytbkmapaieillmaa", sum := "1af7ba0c9e566c28c28fccbc3b0eb7fd9a0cdcc54a94d750c0106b3162b125fd", func := "loop.example/macroprocessor/laws.FnExactPasteTokens", spec := "fnExactPasteTokens", inPlace := ["internal/bytealg.IndexByteString"], apart := false, narrowed := true }
def FnExactPasteTokensUptoSaid : Prop := fnExactPasteTokensUptoRow.holds Try.pinned (OpenSpec.upto fnExactPasteTokensSpec)

/-- 'laws.FnExactHideName', WHERE WHAT IT READS IS OF BULK AT MOST 1048576: true; the input reads as it did. -/
def fnExactHideNameUptoRow : OpenClaim := { program := "ytbkmapaieillmaa", sum := "1af7ba0c9e566c28c28fccbc3b0eb7fd9a0cdcc54a94d750c0106b3162b125fd", func := "loop.example/macroprocessor/laws.FnExactHideName", spec := "fnExactHideName", inPlace := ["internal/bytealg.IndexByteString", "slices.overlaps[string]"], apart := false, narrowed := true }
def FnExactHideNameUptoSaid : Prop := fnExactHideNameUptoRow.holds Try.pinned (OpenSpec.upto fnExactHideNameSpec)

end Rows
end Go.Proofs.Ytbkmapaieillmaa
