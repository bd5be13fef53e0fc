/-
  No cell of these rows narrows 'for every input' (looked for: loops, veiled, ifaces, maps, wideKeys, modest, calm, conditions, laid).
  DERIVED. THE GIVEN ROWS OF THIS SEAT. 3 by the template 'for every input the law returns true; each argument reads behind the call as it read before'; 0 by the template 'total and deterministic' (their statements: YthbojipdhgidlabTotals.lean).
  GIVEN WITH THE SEED: the statements are not yours to turn. If you find one false, say at which input.
  Laid BY PROGRAM, IN A SANDBOX (cutbox-rows.mjs): the forced cells as the released guide's own fill.sh prints them over the translation cc57b9106b2b08b1… (all of the seat's roots in one cut). By AI agents, Wed Nov 11 2026. No macro, syntax, notation, axiom, sorry.
-/
import Derived.Test.YthbojipdhgidlabChecked
import GoSem.Claim
import GoSem.ClaimJoined
import GoSem.ClaimMapViews
import Derived.JoinedTies
import Derived.KernelRfl
namespace Go.Proofs.Ythbojipdhgidlab
/- THE CELL 'sum', in the pinned program and in every row, IS THE sha256 OF THE DUMP (.gsa) THAT YthbojipdhgidlabProg.lean LOADS. Nothing in Lean hashes anything: it is a label: what it is worth is what the hold of that sum in a sandbox is worth. -/
noncomputable def Try.pinned : Pinned := { name := "ythbojipdhgidlab", sum := "cc57b9106b2b08b11e23d930e723ae4cb106cf97c16076d6aee6c097f81833f9", checked := Try.checked }
namespace Rows
def none {H : Type} : Left H := { results := [], args := [] }

/-- 'laws.FnUndefine': WHATEVER THE INPUT: true; the input reads as it did. -/
def fnUndefineSpec : ChangeSpec := { name := "fnUndefine", fn := fun _ => fun
  | [d] => { results := [.lit (.bool true)], args := [d] }
  | _ => none }
def fnUndefineRow : OpenClaim := { program := "ythbojipdhgidlab", sum := "cc57b9106b2b08b11e23d930e723ae4cb106cf97c16076d6aee6c097f81833f9", func := "loop.example/macroprocessor/laws.FnUndefine", spec := "fnUndefine", inPlace := ["internal/bytealg.IndexByteString", "internal/bytealg.abigen_runtime_cmpstring"], unfollowed := true, recurses := true, apart := false }
def FnUndefineSaid : Prop := fnUndefineRow.holds Try.pinned (OpenSpec.ofChange fnUndefineSpec)

/-- ITS FALSE NEIGHBOUR: 'it returns false'. Refute it at one input. -/
def fnUndefineWrong : ChangeSpec := { name := "fnUndefine", fn := fun _ => fun
  | [d] => { results := [.lit (.bool false)], args := [d] }
  | _ => none }
def FnUndefineWrongFalsely : Prop := fnUndefineRow.holds Try.pinned (OpenSpec.ofChange fnUndefineWrong)

/-- 'laws.FnDefine': WHATEVER THE INPUT: true; the input reads as it did. -/
def fnDefineSpec : ChangeSpec := { name := "fnDefine", fn := fun _ => fun
  | [d] => { results := [.lit (.bool true)], args := [d] }
  | _ => none }
def fnDefineRow : OpenClaim := { program := "ythbojipdhgidlab", sum := "cc57b9106b2b08b11e23d930e723ae4cb106cf97c16076d6aee6c097f81833f9", func := "loop.example/macroprocessor/laws.FnDefine", spec := "fnDefine", inPlace := ["internal/bytealg.IndexByteString", "internal/bytealg.abigen_runtime_cmpstring", "slices.overlaps[loop.example/macroprocessor/impl.Macro]"], unfollowed := true, recurses := true, apart := false }
def FnDefineSaid : Prop := fnDefineRow.holds Try.pinned (OpenSpec.ofChange fnDefineSpec)

/-- ITS FALSE NEIGHBOUR: 'it returns false'. Refute it at one input. -/
def fnDefineWrong : ChangeSpec := { name := "fnDefine", fn := fun _ => fun
  | [d] => { results := [.lit (.bool false)], args := [d] }
  | _ => none }
def FnDefineWrongFalsely : Prop := fnDefineRow.holds Try.pinned (OpenSpec.ofChange fnDefineWrong)

/-- 'laws.FnExactDefine': WHATEVER THE INPUT: true; the input reads as it did. -/
def fnExactDefineSpec : ChangeSpec := { name := "fnExactDefine", fn := fun _ => fun
  | [d1, d2] => { results := [.lit (.bool true)], args := [d1, d2] }
  | _ => none }
def fnExactDefineRow : OpenClaim := { program := "ythbojipdhgidlab", sum := "cc57b9106b2b08b11e23d930e723ae4cb106cf97c16076d6aee6c097f81833f9", func := "loop.example/macroprocessor/laws.FnExactDefine", spec := "fnExactDefine", inPlace := ["internal/bytealg.IndexByteString", "internal/bytealg.abigen_runtime_cmpstring", "slices.overlaps[loop.example/macroprocessor/impl.Macro]"], unfollowed := true, recurses := true, apart := false }
def FnExactDefineSaid : Prop := fnExactDefineRow.holds Try.pinned (OpenSpec.ofChange fnExactDefineSpec)

/-- ITS FALSE NEIGHBOUR: 'it returns false'. Refute it at one input. -/
def fnExactDefineWrong : ChangeSpec := { name := "fnExactDefine", fn := fun _ => fun
  | [d1, d2] => { results := [.lit (.bool false)], args := [d1, d2] }
  | _ => none }
def FnExactDefineWrongFalsely : Prop := fnExactDefineRow.holds Try.pinned (OpenSpec.ofChange fnExactDefineWrong)

/- THE SECOND FORM. 'bulk': how many values and letters a reading holds, each counted each time it is reached (what is shared counts as often as it is met; a slice's spare places count too). A statement '..UptoSaid' is the law's where the arguments, and the package variables that the reading takes, are together of bulk at most 1048576: NARROWER than '..Said'. Prove '..Said' where nothing that the law and all that it calls make is longer than what came in: it says more and counts as full. Else prove '..UptoSaid'. A law counts once. -/
mutual
def uptoBulk {H : Type} : DataW H → Nat
  | .lit (.string bytes) => bytes.length + 1
  | .lit _ => 1
  | .nil => 1
  | .ptr d => uptoBulk d + 1
  | .slice elems spare => uptoBulkAll elems + uptoBulkAll spare + 1
  | .agg parts => uptoBulkAll parts + 1
  | .iface _ d => uptoBulk d + 1
  | .map entries => uptoBulkEntries entries + 1
  | .held _ => 1
def uptoBulkAll {H : Type} : List (DataW H) → Nat
  | [] => 0
  | d :: r => uptoBulk d + uptoBulkAll r
def uptoBulkEntries {H : Type} : List (Lit × DataW H) → Nat
  | [] => 0
  | x :: r => uptoBulkEntry x + uptoBulkEntries r
def uptoBulkEntry {H : Type} : Lit × DataW H → Nat
  | (.string bytes, d) => bytes.length + uptoBulk d + 1
  | (_, d) => uptoBulk d + 1
 end
def uptoSmall : (H : Type) → List (DataW H) → Bool := fun _ ds => decide (uptoBulkAll ds ≤ 1048576)
def OpenSpec.upto (s : _root_.Go.ChangeSpec) : _root_.Go.OpenSpec := { _root_.Go.OpenSpec.ofChange s with cond := some uptoSmall }

/-- 'laws.FnUndefine', WHERE WHAT IT READS IS OF BULK AT MOST 1048576: true; the input reads as it did. -/
def fnUndefineUptoRow : OpenClaim := { program := "ythbojipdhgidlab", sum := "cc57b9106b2b08b11e23d930e723ae4cb106cf97c16076d6aee6c097f81833f9", func := "loop.example/macroprocessor/laws.FnUndefine", spec := "fnUndefine", inPlace := ["internal/bytealg.IndexByteString", "internal/bytealg.abigen_runtime_cmpstring"], unfollowed := true, recurses := true, apart := false, narrowed := true }
def FnUndefineUptoSaid : Prop := fnUndefineUptoRow.holds Try.pinned (OpenSpec.upto fnUndefineSpec)

/-- 'laws.FnDefine', WHERE WHAT IT READS IS OF BULK AT MOST 1048576: true; the input reads as it did. -/
def fnDefineUptoRow : OpenClaim := { program := "ythbojipdhgidlab", sum := "cc57b9106b2b08b11e23d930e723ae4cb106cf97c16076d6aee6c097f81833f9", func := "loop.example/macroprocessor/laws.FnDefine", spec := "fnDefine", inPlace := ["internal/bytealg.IndexByteString", "internal/bytealg.abigen_runtime_cmpstring", "slices.overlaps[loop.example/macroprocessor/impl.Macro]"], unfollowed := true, recurses := true, apart := false, narrowed := true }
def FnDefineUptoSaid : Prop := fnDefineUptoRow.holds Try.pinned (OpenSpec.upto fnDefineSpec)

/-- 'laws.FnExactDefine', WHERE WHAT IT READS IS OF BULK AT MOST 1048576: true; the input reads as it did. -/
def fnExactDefineUptoRow : OpenClaim := { program := "ythbojipdhgidlab", sum := "cc57b9106b2b08b11e23d930e723ae4cb106cf97c16076d6aee6c097f81833f9", func := "loop.example/macroprocessor/laws.FnExactDefine", spec := "fnExactDefine", inPlace := ["internal/bytealg.IndexByteString", "internal/bytealg.abigen_runtime_cmpstring", "slices.overlaps[loop.example/macroprocessor/impl.Macro]"], unfollowed := true, recurses := true, apart := false, narrowed := true }
def FnExactDefineUptoSaid : Prop := fnExactDefineUptoRow.holds Try.pinned (OpenSpec.upto fnExactDefineSpec)

end Rows
end Go.Proofs.Ythbojipdhgidlab
