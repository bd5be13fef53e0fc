/-
  No cell of these rows narrows 'for every input' (looked for: loops, veiled, ifaces, maps, wideKeys, modest, calm, conditions, laid).
  DERIVED. THE GIVEN ROWS OF THIS SEAT. 4 by the template 'for every input the law returns true; each argument reads behind the call as it read before'; 0 by the template 'total and deterministic' (their statements: YtgjjidjkpmmcoaaTotals.lean).
  GIVEN WITH THE SEED: the statements are not yours to turn. If you find one false, say at which input.
  Laid BY PROGRAM, IN A SANDBOX (cutbox-rows.mjs): the forced cells as the released guide's own fill.sh prints them over the translation f4e1035c30912cd9… (all of the seat's roots in one cut). By AI agents, Wed Nov 11 2026. No macro, syntax, notation, axiom, sorry.
-/
import Derived.Test.YtgjjidjkpmmcoaaChecked
import GoSem.Claim
import GoSem.ClaimJoined
import GoSem.ClaimMapViews
import Derived.JoinedTies
import Derived.KernelRfl
namespace Go.Proofs.Ytgjjidjkpmmcoaa
/- THE CELL 'sum', in the pinned program and in every row, IS THE sha256 OF THE DUMP (.gsa) THAT YtgjjidjkpmmcoaaProg.lean LOADS. Nothing in Lean hashes anything: it is a label: what it is worth is what the hold of that sum in a sandbox is worth. -/
noncomputable def Try.pinned : Pinned := { name := "ytgjjidjkpmmcoaa", sum := "f4e1035c30912cd93e49bfe9f915c0b1562e76717a9b6899a5016d8f3204363a", checked := Try.checked }
namespace Rows
def none {H : Type} : Left H := { results := [], args := [] }

/-- 'laws.FnExactTokenBytes': WHATEVER THE INPUT: true; the input reads as it did. -/
def fnExactTokenBytesSpec : ChangeSpec := { name := "fnExactTokenBytes", fn := fun _ => fun
  | [d] => { results := [.lit (.bool true)], args := [d] }
  | _ => none }
def fnExactTokenBytesRow : OpenClaim := { program := "ytgjjidjkpmmcoaa", sum := "f4e1035c30912cd93e49bfe9f915c0b1562e76717a9b6899a5016d8f3204363a", func := "loop.example/macroprocessor/laws.FnExactTokenBytes", spec := "fnExactTokenBytes", inPlace := ["internal/bytealg.IndexByteString"], apart := false }
def FnExactTokenBytesSaid : Prop := fnExactTokenBytesRow.holds Try.pinned (OpenSpec.ofChange fnExactTokenBytesSpec)

/-- ITS FALSE NEIGHBOUR: 'it returns false'. Refute it at one input. -/
def fnExactTokenBytesWrong : ChangeSpec := { name := "fnExactTokenBytes", fn := fun _ => fun
  | [d] => { results := [.lit (.bool false)], args := [d] }
  | _ => none }
def FnExactTokenBytesWrongFalsely : Prop := fnExactTokenBytesRow.holds Try.pinned (OpenSpec.ofChange fnExactTokenBytesWrong)

/-- 'laws.FnTokenBytes': WHATEVER THE INPUT: true; the input reads as it did. -/
def fnTokenBytesSpec : ChangeSpec := { name := "fnTokenBytes", fn := fun _ => fun
  | [d] => { results := [.lit (.bool true)], args := [d] }
  | _ => none }
def fnTokenBytesRow : OpenClaim := { program := "ytgjjidjkpmmcoaa", sum := "f4e1035c30912cd93e49bfe9f915c0b1562e76717a9b6899a5016d8f3204363a", func := "loop.example/macroprocessor/laws.FnTokenBytes", spec := "fnTokenBytes", inPlace := ["internal/bytealg.IndexByteString", "internal/abi.NoEscape"], apart := false }
def FnTokenBytesSaid : Prop := fnTokenBytesRow.holds Try.pinned (OpenSpec.ofChange fnTokenBytesSpec)

/-- ITS FALSE NEIGHBOUR: 'it returns false'. Refute it at one input. -/
def fnTokenBytesWrong : ChangeSpec := { name := "fnTokenBytes", fn := fun _ => fun
  | [d] => { results := [.lit (.bool false)], args := [d] }
  | _ => none }
def FnTokenBytesWrongFalsely : Prop := fnTokenBytesRow.holds Try.pinned (OpenSpec.ofChange fnTokenBytesWrong)

/-- 'laws.FnExactTextToken': WHATEVER THE INPUT: true; the input reads as it did. -/
def fnExactTextTokenSpec : ChangeSpec := { name := "fnExactTextToken", fn := fun _ => fun
  | [d] => { results := [.lit (.bool true)], args := [d] }
  | _ => none }
def fnExactTextTokenRow : OpenClaim := { program := "ytgjjidjkpmmcoaa", sum := "f4e1035c30912cd93e49bfe9f915c0b1562e76717a9b6899a5016d8f3204363a", func := "loop.example/macroprocessor/laws.FnExactTextToken", spec := "fnExactTextToken", inPlace := ["internal/bytealg.IndexByteString", "internal/abi.NoEscape"], apart := false }
def FnExactTextTokenSaid : Prop := fnExactTextTokenRow.holds Try.pinned (OpenSpec.ofChange fnExactTextTokenSpec)

/-- ITS FALSE NEIGHBOUR: 'it returns false'. Refute it at one input. -/
def fnExactTextTokenWrong : ChangeSpec := { name := "fnExactTextToken", fn := fun _ => fun
  | [d] => { results := [.lit (.bool false)], args := [d] }
  | _ => none }
def FnExactTextTokenWrongFalsely : Prop := fnExactTextTokenRow.holds Try.pinned (OpenSpec.ofChange fnExactTextTokenWrong)

/-- 'laws.FnTextToken': WHATEVER THE INPUT: true; the input reads as it did. -/
def fnTextTokenSpec : ChangeSpec := { name := "fnTextToken", fn := fun _ => fun
  | [d] => { results := [.lit (.bool true)], args := [d] }
  | _ => none }
def fnTextTokenRow : OpenClaim := { program := "ytgjjidjkpmmcoaa", sum := "f4e1035c30912cd93e49bfe9f915c0b1562e76717a9b6899a5016d8f3204363a", func := "loop.example/macroprocessor/laws.FnTextToken", spec := "fnTextToken", inPlace := ["internal/bytealg.IndexByteString", "internal/abi.NoEscape"], apart := false }
def FnTextTokenSaid : Prop := fnTextTokenRow.holds Try.pinned (OpenSpec.ofChange fnTextTokenSpec)

/-- ITS FALSE NEIGHBOUR: 'it returns false'. Refute it at one input. -/
def fnTextTokenWrong : ChangeSpec := { name := "fnTextToken", fn := fun _ => fun
  | [d] => { results := [.lit (.bool false)], args := [d] }
  | _ => none }
def FnTextTokenWrongFalsely : Prop := fnTextTokenRow.holds Try.pinned (OpenSpec.ofChange fnTextTokenWrong)

/- THE SECOND FORM. 'bulk': how many values and letters a reading holds, each counted each time it is reached (what is shared counts as often as it is met; a slice's spare places count too). A statement '..UptoSaid' is the law's where the arguments, and the package variables that the reading takes, are together of bulk at most 1048576: NARROWER than '..Said'. Prove '..Said' where nothing that the law and all that it calls make is longer than what came in: it says more and counts as full. Else prove '..UptoSaid'. A law counts once. -/
mutual
def uptoBulk {H : Type} : DataW H → Nat
  | .lit (.string bytes) => bytes.length + 1
  | .lit _ => 1
  | .nil => 1
  | .ptr d => uptoBulk d + 1
  | .slice elems spare => uptoBulkAll elems + uptoBulkAll spare + 1
  | .agg parts => uptoBulkAll parts + 1
  | .iface _ d => uptoBulk d + 1
  | .map entries => uptoBulkEntries entries + 1
  | .held _ => 1
def uptoBulkAll {H : Type} : List (DataW H) → Nat
  | [] => 0
  | d :: r => uptoBulk d + uptoBulkAll r
def uptoBulkEntries {H : Type} : List (Lit × DataW H) → Nat
  | [] => 0
  | x :: r => uptoBulkEntry x + uptoBulkEntries r
def uptoBulkEntry {H : Type} : Lit × DataW H → Nat
  | (.string bytes, d) => bytes.length + uptoBulk d + 1
  | (_, d) => uptoBulk d + 1
 end
def uptoSmall : (H : Type) → List (DataW H) → Bool := fun _ ds => decide (uptoBulkAll ds ≤ 1048576)
def OpenSpec.upto (s : _root_.Go.ChangeSpec) : _root_.Go.OpenSpec := { _root_.Go.OpenSpec.ofChange s with cond := some uptoSmall }

/-- 'laws.FnExactTokenBytes', WHERE WHAT IT READS IS OF BULK AT MOST 1048576: true; the input reads as it did. -/
def fnExactTokenBytesUptoRow : OpenClaim := { program := "ytgjjidjkpmmcoaa", sum := "f4e1035c30912cd93e49bfe9f915c0b1562e76717a9b6899a5016d8f3204363a", func := "loop.example/macroprocessor/laws.FnExactTokenBytes", spec := "fnExactTokenBytes", inPlace := ["internal/bytealg.IndexByteString"], apart := false, narrowed := true }
def FnExactTokenBytesUptoSaid : Prop := fnExactTokenBytesUptoRow.holds Try.pinned (OpenSpec.upto fnExactTokenBytesSpec)

/-- 'laws.FnTokenBytes', WHERE WHAT IT READS IS OF BULK AT MOST 1048576: true; the input reads as it did. -/
def fnTokenBytesUptoRow : OpenClaim := { program := "ytgjjidjkpmmcoaa", sum := "f4e1035c30912cd93e49bfe9f915c0b1562e76717a9b6899a5016d8f3204363a", func := "loop.example/macroprocessor/laws.FnTokenBytes", spec := "fnTokenBytes", inPlace := ["internal/bytealg.IndexByteString", "internal/abi.NoEscape"], apart := false, narrowed := true }
def FnTokenBytesUptoSaid : Prop := fnTokenBytesUptoRow.holds Try.pinned (OpenSpec.upto fnTokenBytesSpec)

/-- 'laws.FnExactTextToken', WHERE WHAT IT READS IS OF BULK AT MOST 1048576: true; the input reads as it did. -/
def fnExactTextTokenUptoRow : OpenClaim := { program := "ytgjjidjkpmmcoaa", sum := "f4e1035c30912cd93e49bfe9f915c0b1562e76717a9b6899a5016d8f3204363a", func := "loop.example/macroprocessor/laws.FnExactTextToken", spec := "fnExactTextToken", inPlace := ["internal/bytealg.IndexByteString", "internal/abi.NoEscape"], apart := false, narrowed := true }
def FnExactTextTokenUptoSaid : Prop := fnExactTextTokenUptoRow.holds Try.pinned (OpenSpec.upto fnExactTextTokenSpec)

/-- 'laws.FnTextToken', WHERE WHAT IT READS IS OF BULK AT MOST 1048576: true; the input reads as it did. -/
def fnTextTokenUptoRow : OpenClaim := { program := "ytgjjidjkpmmcoaa", sum := "f4e1035c30912cd93e49bfe9f915c0b1562e76717a9b6899a5016d8f3204363a", func := "loop.example/macroprocessor/laws.FnTextToken", spec := "fnTextToken", inPlace := ["internal/bytealg.IndexByteString", "internal/abi.NoEscape"], apart := false, narrowed := true }
def FnTextTokenUptoSaid : Prop := fnTextTokenUptoRow.holds Try.pinned (OpenSpec.upto fnTextTokenSpec)

end Rows
end Go.Proofs.Ytgjjidjkpmmcoaa
