/-
  No cell of these rows narrows 'for every input' (looked for: loops, veiled, ifaces, maps, wideKeys, modest, calm, conditions, laid).
  DERIVED. THE GIVEN ROWS OF THIS SEAT. 5 by the template 'for every input the law returns true; each argument reads behind the call as it read before'; 0 by the template 'total and deterministic' (their statements: YtdnjpjiepnhhhabTotals.lean).
  GIVEN WITH THE SEED: the statements are not yours to turn. If you find one false, say at which input.
  Laid BY PROGRAM, IN A SANDBOX (cutbox-rows.mjs): the forced cells as the released guide's own fill.sh prints them over the translation 8dd1ae8147b0db87… (all of the seat's roots in one cut). By AI agents, Wed Nov 11 2026. No macro, syntax, notation, axiom, sorry.
-/
import Derived.Test.YtdnjpjiepnhhhabChecked
import GoSem.Claim
import GoSem.ClaimJoined
import GoSem.ClaimMapViews
import Derived.JoinedTies
import Derived.KernelRfl
namespace Go.Proofs.Ytdnjpjiepnhhhab
/- THE CELL 'sum', in the pinned program and in every row, IS THE sha256 OF THE DUMP (.gsa) THAT YtdnjpjiepnhhhabProg.lean LOADS. Nothing in Lean hashes anything: it is a label: what it is worth is what the hold of that sum in a sandbox is worth. -/
noncomputable def Try.pinned : Pinned := { name := "ytdnjpjiepnhhhab", sum := "8dd1ae8147b0db87c4fd7b584fe21a960dd56a4dec1023444d3def061f9e17ba", checked := Try.checked }
namespace Rows
def none {H : Type} : Left H := { results := [], args := [] }

/-- 'laws.FnExactTableValid': WHATEVER THE INPUT: true; the input reads as it did. -/
def fnExactTableValidSpec : ChangeSpec := { name := "fnExactTableValid", fn := fun _ => fun
  | [d] => { results := [.lit (.bool true)], args := [d] }
  | _ => none }
def fnExactTableValidRow : OpenClaim := { program := "ytdnjpjiepnhhhab", sum := "8dd1ae8147b0db87c4fd7b584fe21a960dd56a4dec1023444d3def061f9e17ba", func := "loop.example/macroprocessor/laws.FnExactTableValid", spec := "fnExactTableValid", inPlace := ["internal/bytealg.IndexByteString"], apart := false }
def FnExactTableValidSaid : Prop := fnExactTableValidRow.holds Try.pinned (OpenSpec.ofChange fnExactTableValidSpec)

/-- ITS FALSE NEIGHBOUR: 'it returns false'. Refute it at one input. -/
def fnExactTableValidWrong : ChangeSpec := { name := "fnExactTableValid", fn := fun _ => fun
  | [d] => { results := [.lit (.bool false)], args := [d] }
  | _ => none }
def FnExactTableValidWrongFalsely : Prop := fnExactTableValidRow.holds Try.pinned (OpenSpec.ofChange fnExactTableValidWrong)

/-- 'laws.FnTableValid': WHATEVER THE INPUT: true; the input reads as it did. -/
def fnTableValidSpec : ChangeSpec := { name := "fnTableValid", fn := fun _ => fun
  | [d] => { results := [.lit (.bool true)], args := [d] }
  | _ => none }
def fnTableValidRow : OpenClaim := { program := "ytdnjpjiepnhhhab", sum := "8dd1ae8147b0db87c4fd7b584fe21a960dd56a4dec1023444d3def061f9e17ba", func := "loop.example/macroprocessor/laws.FnTableValid", spec := "fnTableValid", inPlace := ["internal/bytealg.IndexByteString"], apart := false }
def FnTableValidSaid : Prop := fnTableValidRow.holds Try.pinned (OpenSpec.ofChange fnTableValidSpec)

/-- ITS FALSE NEIGHBOUR: 'it returns false'. Refute it at one input. -/
def fnTableValidWrong : ChangeSpec := { name := "fnTableValid", fn := fun _ => fun
  | [d] => { results := [.lit (.bool false)], args := [d] }
  | _ => none }
def FnTableValidWrongFalsely : Prop := fnTableValidRow.holds Try.pinned (OpenSpec.ofChange fnTableValidWrong)

/-- 'laws.FnExactIsDefined': WHATEVER THE INPUT: true; the input reads as it did. -/
def fnExactIsDefinedSpec : ChangeSpec := { name := "fnExactIsDefined", fn := fun _ => fun
  | [d1, d2] => { results := [.lit (.bool true)], args := [d1, d2] }
  | _ => none }
def fnExactIsDefinedRow : OpenClaim := { program := "ytdnjpjiepnhhhab", sum := "8dd1ae8147b0db87c4fd7b584fe21a960dd56a4dec1023444d3def061f9e17ba", func := "loop.example/macroprocessor/laws.FnExactIsDefined", spec := "fnExactIsDefined", inPlace := ["internal/bytealg.IndexByteString", "internal/bytealg.abigen_runtime_cmpstring"], unfollowed := true, recurses := true, apart := false }
def FnExactIsDefinedSaid : Prop := fnExactIsDefinedRow.holds Try.pinned (OpenSpec.ofChange fnExactIsDefinedSpec)

/-- ITS FALSE NEIGHBOUR: 'it returns false'. Refute it at one input. -/
def fnExactIsDefinedWrong : ChangeSpec := { name := "fnExactIsDefined", fn := fun _ => fun
  | [d1, d2] => { results := [.lit (.bool false)], args := [d1, d2] }
  | _ => none }
def FnExactIsDefinedWrongFalsely : Prop := fnExactIsDefinedRow.holds Try.pinned (OpenSpec.ofChange fnExactIsDefinedWrong)

/-- 'laws.FnIsDefined': WHATEVER THE INPUT: true; the input reads as it did. -/
def fnIsDefinedSpec : ChangeSpec := { name := "fnIsDefined", fn := fun _ => fun
  | [d] => { results := [.lit (.bool true)], args := [d] }
  | _ => none }
def fnIsDefinedRow : OpenClaim := { program := "ytdnjpjiepnhhhab", sum := "8dd1ae8147b0db87c4fd7b584fe21a960dd56a4dec1023444d3def061f9e17ba", func := "loop.example/macroprocessor/laws.FnIsDefined", spec := "fnIsDefined", inPlace := ["internal/bytealg.IndexByteString", "internal/bytealg.abigen_runtime_cmpstring"], unfollowed := true, recurses := true, apart := false }
def FnIsDefinedSaid : Prop := fnIsDefinedRow.holds Try.pinned (OpenSpec.ofChange fnIsDefinedSpec)

/-- ITS FALSE NEIGHBOUR: 'it returns false'. Refute it at one input. -/
def fnIsDefinedWrong : ChangeSpec := { name := "fnIsDefined", fn := fun _ => fun
  | [d] => { results := [.lit (.bool false)], args := [d] }
  | _ => none }
def FnIsDefinedWrongFalsely : Prop := fnIsDefinedRow.holds Try.pinned (OpenSpec.ofChange fnIsDefinedWrong)

/-- 'laws.FnExactUndefine': WHATEVER THE INPUT: true; the input reads as it did. -/
def fnExactUndefineSpec : ChangeSpec := { name := "fnExactUndefine", fn := fun _ => fun
  | [d1, d2] => { results := [.lit (.bool true)], args := [d1, d2] }
  | _ => none }
def fnExactUndefineRow : OpenClaim := { program := "ytdnjpjiepnhhhab", sum := "8dd1ae8147b0db87c4fd7b584fe21a960dd56a4dec1023444d3def061f9e17ba", func := "loop.example/macroprocessor/laws.FnExactUndefine", spec := "fnExactUndefine", inPlace := ["internal/bytealg.IndexByteString", "internal/bytealg.abigen_runtime_cmpstring"], unfollowed := true, recurses := true, apart := false }
def FnExactUndefineSaid : Prop := fnExactUndefineRow.holds Try.pinned (OpenSpec.ofChange fnExactUndefineSpec)

/-- ITS FALSE NEIGHBOUR: 'it returns false'. Refute it at one input. -/
def fnExactUndefineWrong : ChangeSpec := { name := "fnExactUndefine", fn := fun _ => fun
  | [d1, d2] => { results := [.lit (.bool false)], args := [d1, d2] }
  | _ => none }
def FnExactUndefineWrongFalsely : Prop := fnExactUndefineRow.holds Try.pinned (OpenSpec.ofChange fnExactUndefineWrong)

/- THE SECOND FORM. 'bulk': how many values and letters a reading holds, each counted each time it is reached (what is shared counts as often as it is met; a slice's spare places count too). A statement '..UptoSaid' is the law's where the arguments, and the package variables that the reading takes, are together of bulk at most 1048576: NARROWER than '..Said'. Prove '..Said' where nothing that the law and all that it calls make is longer than what came in: it says more and counts as full. Else prove '..UptoSaid'. A law counts once. -/
mutual
def uptoBulk {H : Type} : DataW H → Nat
  | .lit (.string bytes) => bytes.length + 1
  | .lit _ => 1
  | .nil => 1
  | .ptr d => uptoBulk d + 1
  | .slice elems spare => uptoBulkAll elems + uptoBulkAll spare + 1
  | .agg parts => uptoBulkAll parts + 1
  | .iface _ d => uptoBulk d + 1
  | .map entries => uptoBulkEntries entries + 1
  | .held _ => 1
def uptoBulkAll {H : Type} : List (DataW H) → Nat
  | [] => 0
  | d :: r => uptoBulk d + uptoBulkAll r
def uptoBulkEntries {H : Type} : List (Lit × DataW H) → Nat
  | [] => 0
  | x :: r => uptoBulkEntry x + uptoBulkEntries r
def uptoBulkEntry {H : Type} : Lit × DataW H → Nat
  | (.string bytes, d) => bytes.length + uptoBulk d + 1
  | (_, d) => uptoBulk d + 1
 end
def uptoSmall : (H : Type) → List (DataW H) → Bool := fun _ ds => decide (uptoBulkAll ds ≤ 1048576)
def OpenSpec.upto (s : _root_.Go.ChangeSpec) : _root_.Go.OpenSpec := { _root_.Go.OpenSpec.ofChange s with cond := some uptoSmall }

/-- 'laws.FnExactTableValid', WHERE WHAT IT READS IS OF BULK AT MOST 1048576: true; the input reads as it did. -/
def fnExactTableValidUptoRow : OpenClaim := { program := "ytdnjpjiepnhhhab", sum := "8dd1ae8147b0db87c4fd7b584fe21a960dd56a4dec1023444d3def061f9e17ba", func := "loop.example/macroprocessor/laws.FnExactTableValid", spec := "fnExactTableValid", inPlace := ["internal/bytealg.IndexByteString"], apart := false, narrowed := true }
def FnExactTableValidUptoSaid : Prop := fnExactTableValidUptoRow.holds Try.pinned (OpenSpec.upto fnExactTableValidSpec)

/-- 'laws.FnTableValid', WHERE WHAT IT READS IS OF BULK AT MOST 1048576: true; the input reads as it did. -/
def fnTableValidUptoRow : OpenClaim := { program := "ytdnjpjiepnhhhab", sum := "8dd1ae8147b0db87c4fd7b584fe21a960dd56a4dec1023444d3def061f9e17ba", func := "loop.example/macroprocessor/laws.FnTableValid", spec := "fnTableValid", inPlace := ["internal/bytealg.IndexByteString"], apart := false, narrowed := true }
def FnTableValidUptoSaid : Prop := fnTableValidUptoRow.holds Try.pinned (OpenSpec.upto fnTableValidSpec)

/-- 'laws.FnExactIsDefined', WHERE WHAT IT READS IS OF BULK AT MOST 1048576: true; the input reads as it did. -/
def fnExactIsDefinedUptoRow : OpenClaim := { program := "ytdnjpjiepnhhhab", sum := "8dd1ae8147b0db87c4fd7b584fe21a960dd56a4dec1023444d3def061f9e17ba", func := "loop.example/macroprocessor/laws.FnExactIsDefined", spec := "fnExactIsDefined", inPlace := ["internal/bytealg.IndexByteString", "internal/bytealg.abigen_runtime_cmpstring"], unfollowed := true, recurses := true, apart := false, narrowed := true }
def FnExactIsDefinedUptoSaid : Prop := fnExactIsDefinedUptoRow.holds Try.pinned (OpenSpec.upto fnExactIsDefinedSpec)

/-- 'laws.FnIsDefined', WHERE WHAT IT READS IS OF BULK AT MOST 1048576: true; the input reads as it did. -/
def fnIsDefinedUptoRow : OpenClaim := { program := "ytdnjpjiepnhhhab", sum := "8dd1ae8147b0db87c4fd7b584fe21a960dd56a4dec1023444d3def061f9e17ba", func := "loop.example/macroprocessor/laws.FnIsDefined", spec := "fnIsDefined", inPlace := ["internal/bytealg.IndexByteString", "internal/bytealg.abigen_runtime_cmpstring"], unfollowed := true, recurses := true, apart := false, narrowed := true }
def FnIsDefinedUptoSaid : Prop := fnIsDefinedUptoRow.holds Try.pinned (OpenSpec.upto fnIsDefinedSpec)

/-- 'laws.FnExactUndefine', WHERE WHAT IT READS IS OF BULK AT MOST 1048576: true; the input reads as it did. -/
def fnExactUndefineUptoRow : OpenClaim := { program := "ytdnjpjiepnhhhab", sum := "8dd1ae8147b0db87c4fd7b584fe21a960dd56a4dec1023444d3def061f9e17ba", func := "loop.example/macroprocessor/laws.FnExactUndefine", spec := "fnExactUndefine", inPlace := ["internal/bytealg.IndexByteString", "internal/bytealg.abigen_runtime_cmpstring"], unfollowed := true, recurses := true, apart := false, narrowed := true }
def FnExactUndefineUptoSaid : Prop := fnExactUndefineUptoRow.holds Try.pinned (OpenSpec.upto fnExactUndefineSpec)

end Rows
end Go.Proofs.Ytdnjpjiepnhhhab
