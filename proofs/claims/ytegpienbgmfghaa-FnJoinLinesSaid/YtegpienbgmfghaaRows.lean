/-
  No cell of these rows narrows 'for every input' (looked for: loops, veiled, ifaces, maps, wideKeys, modest, calm, conditions, laid).
  DERIVED. THE GIVEN ROWS OF THIS SEAT. 5 by the template 'for every input the law returns true; each argument reads behind the call as it read before'; 0 by the template 'total and deterministic' (their statements: YtegpienbgmfghaaTotals.lean).
  GIVEN WITH THE SEED: the statements are not yours to turn. If you find one false, say at which input.
  Laid BY PROGRAM, IN A SANDBOX (cutbox-rows.mjs): the forced cells as the released guide's own fill.sh prints them over the translation 44e5b3966ef69c56… (all of the seat's roots in one cut). By AI agents, Wed Nov 11 2026. No macro, syntax, notation, axiom, sorry.
-/
import Derived.Test.YtegpienbgmfghaaChecked
import GoSem.Claim
import GoSem.ClaimJoined
import GoSem.ClaimMapViews
import Derived.JoinedTies
import Derived.KernelRfl
namespace Go.Proofs.Ytegpienbgmfghaa
/- THE CELL 'sum', in the pinned program and in every row, IS THE sha256 OF THE DUMP (.gsa) THAT YtegpienbgmfghaaProg.lean LOADS. Nothing in Lean hashes anything: it is a label: what it is worth is what the hold of that sum in a sandbox is worth. -/
noncomputable def Try.pinned : Pinned := { name := "ytegpienbgmfghaa", sum := "44e5b3966ef69c56f00c681207c9607dfe00e2c50ba4753b7e260ec881f3e694", checked := Try.checked }
namespace Rows
def none {H : Type} : Left H := { results := [], args := [] }

/-- 'laws.FnLineValid': WHATEVER THE INPUT: true; the input reads as it did. -/
def fnLineValidSpec : ChangeSpec := { name := "fnLineValid", fn := fun _ => fun
  | [d] => { results := [.lit (.bool true)], args := [d] }
  | _ => none }
def fnLineValidRow : OpenClaim := { program := "ytegpienbgmfghaa", sum := "44e5b3966ef69c56f00c681207c9607dfe00e2c50ba4753b7e260ec881f3e694", func := "loop.example/macroprocessor/laws.FnLineValid", spec := "fnLineValid", apart := false }
def FnLineValidSaid : Prop := fnLineValidRow.holds Try.pinned (OpenSpec.ofChange fnLineValidSpec)

/-- ITS FALSE NEIGHBOUR: 'it returns false'. Refute it at one input. -/
def fnLineValidWrong : ChangeSpec := { name := "fnLineValid", fn := fun _ => fun
  | [d] => { results := [.lit (.bool false)], args := [d] }
  | _ => none }
def FnLineValidWrongFalsely : Prop := fnLineValidRow.holds Try.pinned (OpenSpec.ofChange fnLineValidWrong)

/-- 'laws.FnLinesValid': WHATEVER THE INPUT: true; the input reads as it did. -/
def fnLinesValidSpec : ChangeSpec := { name := "fnLinesValid", fn := fun _ => fun
  | [d] => { results := [.lit (.bool true)], args := [d] }
  | _ => none }
def fnLinesValidRow : OpenClaim := { program := "ytegpienbgmfghaa", sum := "44e5b3966ef69c56f00c681207c9607dfe00e2c50ba4753b7e260ec881f3e694", func := "loop.example/macroprocessor/laws.FnLinesValid", spec := "fnLinesValid", apart := false }
def FnLinesValidSaid : Prop := fnLinesValidRow.holds Try.pinned (OpenSpec.ofChange fnLinesValidSpec)

/-- ITS FALSE NEIGHBOUR: 'it returns false'. Refute it at one input. -/
def fnLinesValidWrong : ChangeSpec := { name := "fnLinesValid", fn := fun _ => fun
  | [d] => { results := [.lit (.bool false)], args := [d] }
  | _ => none }
def FnLinesValidWrongFalsely : Prop := fnLinesValidRow.holds Try.pinned (OpenSpec.ofChange fnLinesValidWrong)

/-- 'laws.FnJoinLines': WHATEVER THE INPUT: true; the input reads as it did. -/
def fnJoinLinesSpec : ChangeSpec := { name := "fnJoinLines", fn := fun _ => fun
  | [d] => { results := [.lit (.bool true)], args := [d] }
  | _ => none }
def fnJoinLinesRow : OpenClaim := { program := "ytegpienbgmfghaa", sum := "44e5b3966ef69c56f00c681207c9607dfe00e2c50ba4753b7e260ec881f3e694", func := "loop.example/macroprocessor/laws.FnJoinLines", spec := "fnJoinLines", apart := false }
def FnJoinLinesSaid : Prop := fnJoinLinesRow.holds Try.pinned (OpenSpec.ofChange fnJoinLinesSpec)

/-- ITS FALSE NEIGHBOUR: 'it returns false'. Refute it at one input. -/
def fnJoinLinesWrong : ChangeSpec := { name := "fnJoinLines", fn := fun _ => fun
  | [d] => { results := [.lit (.bool false)], args := [d] }
  | _ => none }
def FnJoinLinesWrongFalsely : Prop := fnJoinLinesRow.holds Try.pinned (OpenSpec.ofChange fnJoinLinesWrong)

/-- 'laws.FnStripComments': WHATEVER THE INPUT: true; the input reads as it did. -/
def fnStripCommentsSpec : ChangeSpec := { name := "fnStripComments", fn := fun _ => fun
  | [d] => { results := [.lit (.bool true)], args := [d] }
  | _ => none }
def fnStripCommentsRow : OpenClaim := { program := "ytegpienbgmfghaa", sum := "44e5b3966ef69c56f00c681207c9607dfe00e2c50ba4753b7e260ec881f3e694", func := "loop.example/macroprocessor/laws.FnStripComments", spec := "fnStripComments", inPlace := ["internal/bytealg.IndexByteString", "internal/bytealg.IndexString"], named := ["internal/bytealg.MaxLen"], apart := false }
def FnStripCommentsSaid : Prop := fnStripCommentsRow.holds Try.pinned (OpenSpec.ofChange fnStripCommentsSpec)

/-- ITS FALSE NEIGHBOUR: 'it returns false'. Refute it at one input. -/
def fnStripCommentsWrong : ChangeSpec := { name := "fnStripComments", fn := fun _ => fun
  | [d] => { results := [.lit (.bool false)], args := [d] }
  | _ => none }
def FnStripCommentsWrongFalsely : Prop := fnStripCommentsRow.holds Try.pinned (OpenSpec.ofChange fnStripCommentsWrong)

/-- 'laws.FnExactStripComments': WHATEVER THE INPUT: true; the input reads as it did. -/
def fnExactStripCommentsSpec : ChangeSpec := { name := "fnExactStripComments", fn := fun _ => fun
  | [d] => { results := [.lit (.bool true)], args := [d] }
  | _ => none }
def fnExactStripCommentsRow : OpenClaim := { program := "ytegpienbgmfghaa", sum := "44e5b3966ef69c56f00c681207c9607dfe00e2c50ba4753b7e260ec881f3e694", func := "loop.example/macroprocessor/laws.FnExactStripComments", spec := "fnExactStripComments", inPlace := ["internal/bytealg.IndexByteString", "internal/bytealg.IndexString"], named := ["internal/bytealg.MaxLen"], apart := false }
def FnExactStripCommentsSaid : Prop := fnExactStripCommentsRow.holds Try.pinned (OpenSpec.ofChange fnExactStripCommentsSpec)

/-- ITS FALSE NEIGHBOUR: 'it returns false'. Refute it at one input. -/
def fnExactStripCommentsWrong : ChangeSpec := { name := "fnExactStripComments", fn := fun _ => fun
  | [d] => { results := [.lit (.bool false)], args := [d] }
  | _ => none }
def FnExactStripCommentsWrongFalsely : Prop := fnExactStripCommentsRow.holds Try.pinned (OpenSpec.ofChange fnExactStripCommentsWrong)

/- THE SECOND FORM. 'bulk': how many values and letters a reading holds, each counted each time it is reached (what is shared counts as often as it is met; a slice's spare places count too). A statement '..UptoSaid' is the law's where the arguments, and the package variables that the reading takes, are together of bulk at most 1048576: NARROWER than '..Said'. Prove '..Said' where nothing that the law and all that it calls make is longer than what came in: it says more and counts as full. Else prove '..UptoSaid'. A law counts once. -/
mutual
def uptoBulk {H : Type} : DataW H → Nat
  | .lit (.string bytes) => bytes.length + 1
  | .lit _ => 1
  | .nil => 1
  | .ptr d => uptoBulk d + 1
  | .slice elems spare => uptoBulkAll elems + uptoBulkAll spare + 1
  | .agg parts => uptoBulkAll parts + 1
  | .iface _ d => uptoBulk d + 1
  | .map entries => uptoBulkEntries entries + 1
  | .held _ => 1
def uptoBulkAll {H : Type} : List (DataW H) → Nat
  | [] => 0
  | d :: r => uptoBulk d + uptoBulkAll r
def uptoBulkEntries {H : Type} : List (Lit × DataW H) → Nat
  | [] => 0
  | x :: r => uptoBulkEntry x + uptoBulkEntries r
def uptoBulkEntry {H : Type} : Lit × DataW H → Nat
  | (.string bytes, d) => bytes.length + uptoBulk d + 1
  | (_, d) => uptoBulk d + 1
 end
def uptoSmall : (H : Type) → List (DataW H) → Bool := fun _ ds => decide (uptoBulkAll ds ≤ 1048576)
def OpenSpec.upto (s : _root_.Go.ChangeSpec) : _root_.Go.OpenSpec := { _root_.Go.OpenSpec.ofChange s with cond := some uptoSmall }

/-- 'laws.FnLineValid', WHERE WHAT IT READS IS OF BULK AT MOST 1048576: true; the input reads as it did. -/
def fnLineValidUptoRow : OpenClaim := { program := "ytegpienbgmfghaa", sum := "44e5b3966ef69c56f00c681207c9607dfe00e2c50ba4753b7e260ec881f3e694", func := "loop.example/macroprocessor/laws.FnLineValid", spec := "fnLineValid", apart := false, narrowed := true }
def FnLineValidUptoSaid : Prop := fnLineValidUptoRow.holds Try.pinned (OpenSpec.upto fnLineValidSpec)

/-- 'laws.FnLinesValid', WHERE WHAT IT READS IS OF BULK AT MOST 1048576: true; the input reads as it did. -/
def fnLinesValidUptoRow : OpenClaim := { program := "ytegpienbgmfghaa", sum := "44e5b3966ef69c56f00c681207c9607dfe00e2c50ba4753b7e260ec881f3e694", func := "loop.example/macroprocessor/laws.FnLinesValid", spec := "fnLinesValid", apart := false, narrowed := true }
def FnLinesValidUptoSaid : Prop := fnLinesValidUptoRow.holds Try.pinned (OpenSpec.upto fnLinesValidSpec)

/-- 'laws.FnJoinLines', WHERE WHAT IT READS IS OF BULK AT MOST 1048576: true; the input reads as it did. -/
def fnJoinLinesUptoRow : OpenClaim := { program := "ytegpienbgmfghaa", sum := "44e5b3966ef69c56f00c681207c9607dfe00e2c50ba4753b7e260ec881f3e694", func := "loop.example/macroprocessor/laws.FnJoinLines", spec := "fnJoinLines", apart := false, narrowed := true }
def FnJoinLinesUptoSaid : Prop := fnJoinLinesUptoRow.holds Try.pinned (OpenSpec.upto fnJoinLinesSpec)

/-- 'laws.FnStripComments', WHERE WHAT IT READS IS OF BULK AT MOST 1048576: true; the input reads as it did. -/
def fnStripCommentsUptoRow : OpenClaim := { program := "ytegpienbgmfghaa", sum := "44e5b3966ef69c56f00c681207c9607dfe00e2c50ba4753b7e260ec881f3e694", func := "loop.example/macroprocessor/laws.FnStripComments", spec := "fnStripComments", inPlace := ["internal/bytealg.IndexByteString", "internal/bytealg.IndexString"], named := ["internal/bytealg.MaxLen"], apart := false, narrowed := true }
def FnStripCommentsUptoSaid : Prop := fnStripCommentsUptoRow.holds Try.pinned (OpenSpec.upto fnStripCommentsSpec)

/-- 'laws.FnExactStripComments', WHERE WHAT IT READS IS OF BULK AT MOST 1048576: true; the input reads as it did. -/
def fnExactStripCommentsUptoRow : OpenClaim := { program := "ytegpienbgmfghaa", sum := "44e5b3966ef69c56f00c681207c9607dfe00e2c50ba4753b7e260ec881f3e694", func := "loop.example/macroprocessor/laws.FnExactStripComments", spec := "fnExactStripComments", inPlace := ["internal/bytealg.IndexByteString", "internal/bytealg.IndexString"], named := ["internal/bytealg.MaxLen"], apart := false, narrowed := true }
def FnExactStripCommentsUptoSaid : Prop := fnExactStripCommentsUptoRow.holds Try.pinned (OpenSpec.upto fnExactStripCommentsSpec)

end Rows
end Go.Proofs.Ytegpienbgmfghaa
