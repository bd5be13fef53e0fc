/-
  No cell of these rows narrows 'for every input' (looked for: loops, veiled, ifaces, maps, wideKeys, modest, calm, conditions, laid).
  DERIVED. THE GIVEN ROWS OF THIS SEAT. 3 by the template 'for every input the law returns true; each argument reads behind the call as it read before'; 0 by the template 'total and deterministic' (their statements: YtiaiggjfepoahaaGreatTotals.lean).
  GIVEN WITH THE SEED: the statements are not yours to turn. If you find one false, say at which input.
  Laid BY PROGRAM, IN A SANDBOX (cutbox-rows.mjs): the forced cells as the released guide's own fill.sh prints them over the translation 617e122e1e3d9b69… (all of the seat's roots in one cut). By AI agents, Wed Nov 11 2026. No macro, syntax, notation, axiom, sorry.
-/
import Derived.Test.YtiaiggjfepoahaaGreatChecked
import GoSem.Claim
import GoSem.ClaimJoined
import GoSem.ClaimMapViews
import Derived.JoinedTies
import Derived.KernelRfl
namespace Go.Proofs.YtiaiggjfepoahaaGreat
/- THE CELL 'sum', in the pinned program and in every row, IS THE sha256 OF THE DUMP (.gsa) THAT YtiaiggjfepoahaaGreatProg.lean LOADS. Nothing in Lean hashes anything: it is a label: what it is worth is what the hold of that sum in a sandbox is worth. -/
noncomputable def Tryz.pinned : Pinned := { name := "ytiaiggjfepoahaagreat", sum := "617e122e1e3d9b69d632dcea5ccfda53a2c74b1924008ae73b5e0fbd463758a0", checked := Tryz.checked }
namespace Rows
def none {H : Type} : Left H := { results := [], args := [] }

/-- 'laws.FnExpandLine': WHATEVER THE INPUT: true; the input reads as it did. -/
def fnExpandLineSpec : ChangeSpec := { name := "fnExpandLine", fn := fun _ => fun
  | [d] => { results := [.lit (.bool true)], args := [d] }
  | _ => none }
def fnExpandLineRow : OpenClaim := { program := "ytiaiggjfepoahaagreat", sum := "617e122e1e3d9b69d632dcea5ccfda53a2c74b1924008ae73b5e0fbd463758a0", func := "loop.example/macroprocessor/laws.FnExpandLine", spec := "fnExpandLine", inPlace := ["internal/bytealg.IndexByteString", "internal/bytealg.abigen_runtime_cmpstring", "slices.overlaps[string]", "internal/abi.NoEscape"], unfollowed := true, recurses := true, apart := false }
def FnExpandLineSaid : Prop := fnExpandLineRow.holds Tryz.pinned (OpenSpec.ofChange fnExpandLineSpec)

/-- ITS FALSE NEIGHBOUR: 'it returns false'. Refute it at one input. -/
def fnExpandLineWrong : ChangeSpec := { name := "fnExpandLine", fn := fun _ => fun
  | [d] => { results := [.lit (.bool false)], args := [d] }
  | _ => none }
def FnExpandLineWrongFalsely : Prop := fnExpandLineRow.holds Tryz.pinned (OpenSpec.ofChange fnExpandLineWrong)

/-- 'laws.FnExactExpand': WHATEVER THE INPUT: true; the input reads as it did. -/
def fnExactExpandSpec : ChangeSpec := { name := "fnExactExpand", fn := fun _ => fun
  | [d1, d2] => { results := [.lit (.bool true)], args := [d1, d2] }
  | _ => none }
def fnExactExpandRow : OpenClaim := { program := "ytiaiggjfepoahaagreat", sum := "617e122e1e3d9b69d632dcea5ccfda53a2c74b1924008ae73b5e0fbd463758a0", func := "loop.example/macroprocessor/laws.FnExactExpand", spec := "fnExactExpand", inPlace := ["internal/bytealg.IndexByteString", "internal/bytealg.abigen_runtime_cmpstring", "slices.overlaps[string]", "internal/abi.NoEscape"], unfollowed := true, recurses := true, apart := false }
def FnExactExpandSaid : Prop := fnExactExpandRow.holds Tryz.pinned (OpenSpec.ofChange fnExactExpandSpec)

/-- ITS FALSE NEIGHBOUR: 'it returns false'. Refute it at one input. -/
def fnExactExpandWrong : ChangeSpec := { name := "fnExactExpand", fn := fun _ => fun
  | [d1, d2] => { results := [.lit (.bool false)], args := [d1, d2] }
  | _ => none }
def FnExactExpandWrongFalsely : Prop := fnExactExpandRow.holds Tryz.pinned (OpenSpec.ofChange fnExactExpandWrong)

/-- 'laws.FnExactExpandLine': WHATEVER THE INPUT: true; the input reads as it did. -/
def fnExactExpandLineSpec : ChangeSpec := { name := "fnExactExpandLine", fn := fun _ => fun
  | [d1, d2] => { results := [.lit (.bool true)], args := [d1, d2] }
  | _ => none }
def fnExactExpandLineRow : OpenClaim := { program := "ytiaiggjfepoahaagreat", sum := "617e122e1e3d9b69d632dcea5ccfda53a2c74b1924008ae73b5e0fbd463758a0", func := "loop.example/macroprocessor/laws.FnExactExpandLine", spec := "fnExactExpandLine", inPlace := ["internal/bytealg.IndexByteString", "internal/bytealg.abigen_runtime_cmpstring", "slices.overlaps[string]", "internal/abi.NoEscape"], unfollowed := true, recurses := true, apart := false }
def FnExactExpandLineSaid : Prop := fnExactExpandLineRow.holds Tryz.pinned (OpenSpec.ofChange fnExactExpandLineSpec)

/-- ITS FALSE NEIGHBOUR: 'it returns false'. Refute it at one input. -/
def fnExactExpandLineWrong : ChangeSpec := { name := "fnExactExpandLine", fn := fun _ => fun
  | [d1, d2] => { results := [.lit (.bool false)], args := [d1, d2] }
  | _ => none }
def FnExactExpandLineWrongFalsely : Prop := fnExactExpandLineRow.holds Tryz.pinned (OpenSpec.ofChange fnExactExpandLineWrong)

/- THE SECOND FORM. 'bulk': how many values and letters a reading holds, each counted each time it is reached (what is shared counts as often as it is met; a slice's spare places count too). A statement '..UptoSaid' is the law's where the arguments, and the package variables that the reading takes, are together of bulk at most 1048576: NARROWER than '..Said'. Prove '..Said' where nothing that the law and all that it calls make is longer than what came in: it says more and counts as full. Else prove '..UptoSaid'. A law counts once. -/
mutual
def uptoBulk {H : Type} : DataW H → Nat
  | .lit (.string bytes) => bytes.length + 1
  | .lit _ => 1
  | .nil => 1
  | .ptr d => uptoBulk d + 1
  | .slice elems spare => uptoBulkAll elems + uptoBulkAll spare + 1
  | .agg parts => uptoBulkAll parts + 1
  | .iface _ d => uptoBulk d + 1
  | .map entries => uptoBulkEntries entries + 1
  | .held _ => 1
def uptoBulkAll {H : Type} : List (DataW H) → Nat
  | [] => 0
  | d :: r => uptoBulk d + uptoBulkAll r
def uptoBulkEntries {H : Type} : List (Lit × DataW H) → Nat
  | [] => 0
  | x :: r => uptoBulkEntry x + uptoBulkEntries r
def uptoBulkEntry {H : Type} : Lit × DataW H → Nat
  | (.string bytes, d) => bytes.length + uptoBulk d + 1
  | (_, d) => uptoBulk d + 1
 end
def uptoSmall : (H : Type) → List (DataW H) → Bool := fun _ ds => decide (uptoBulkAll ds ≤ 1048576)
def OpenSpec.upto (s : _root_.Go.ChangeSpec) : _root_.Go.OpenSpec := { _root_.Go.OpenSpec.ofChange s with cond := some uptoSmall }

/-- 'laws.FnExpandLine', WHERE WHAT IT READS IS OF BULK AT MOST 1048576: true; the input reads as it did. -/
def fnExpandLineUptoRow : OpenClaim := { program := "ytiaiggjfepoahaagreat", sum := "617e122e1e3d9b69d632dcea5ccfda53a2c74b1924008ae73b5e0fbd463758a0", func := "loop.example/macroprocessor/laws.FnExpandLine", spec := "fnExpandLine", inPlace := ["internal/bytealg.IndexByteString", "internal/bytealg.abigen_runtime_cmpstring", "slices.overlaps[string]", "internal/abi.NoEscape"], unfollowed := true, recurses := true, apart := false, narrowed := true }
def FnExpandLineUptoSaid : Prop := fnExpandLineUptoRow.holds Tryz.pinned (OpenSpec.upto fnExpandLineSpec)

/-- 'laws.FnExactExpand', WHERE WHAT IT READS IS OF BULK AT MOST 1048576: true; the input reads as it did. -/
def fnExactExpandUptoRow : OpenClaim := { program := "ytiaiggjfepoahaagreat", sum := "617e122e1e3d9b69d632dcea5ccfda53a2c74b1924008ae73b5e0fbd463758a0", func := "loop.example/macroprocessor/laws.FnExactExpand", spec := "fnExactExpand", inPlace := ["internal/bytealg.IndexByteString", "internal/bytealg.abigen_runtime_cmpstring", "slices.overlaps[string]", "internal/abi.NoEscape"], unfollowed := true, recurses := true, apart := false, narrowed := true }
def FnExactExpandUptoSaid : Prop := fnExactExpandUptoRow.holds Tryz.pinned (OpenSpec.upto fnExactExpandSpec)

/-- 'laws.FnExactExpandLine', WHERE WHAT IT READS IS OF BULK AT MOST 1048576: true; the input reads as it did. -/
def fnExactExpandLineUptoRow : OpenClaim := { program := "ytiaiggjfepoahaagreat", sum := "617e122e1e3d9b69d632dcea5ccfda53a2c74b1924008ae73b5e0fbd463758a0", func := "loop.example/macroprocessor/laws.FnExactExpandLine", spec := "fnExactExpandLine", inPlace := ["internal/bytealg.IndexByteString", "internal/bytealg.abigen_runtime_cmpstring", "slices.overlaps[string]", "internal/abi.NoEscape"], unfollowed := true, recurses := true, apart := false, narrowed := true }
def FnExactExpandLineUptoSaid : Prop := fnExactExpandLineUptoRow.holds Tryz.pinned (OpenSpec.upto fnExactExpandLineSpec)

end Rows
end Go.Proofs.YtiaiggjfepoahaaGreat
