/-
  No cell of these rows narrows 'for every input' (looked for: loops, veiled, ifaces, maps, wideKeys, modest, calm, conditions, laid).
  DERIVED. THE GIVEN ROWS OF THIS SEAT. 3 by the template 'for every input the law returns true; each argument reads behind the call as it read before'; 0 by the template 'total and deterministic' (their statements: YtncniilhhgjhnaaTotals.lean).
  GIVEN WITH THE SEED: the statements are not yours to turn. If you find one false, say at which input.
  Laid BY PROGRAM, IN A SANDBOX (cutbox-rows.mjs): the forced cells as the released guide's own fill.sh prints them over the translation db1edbe0dffdc54d… (all of the seat's roots in one cut). By AI agents, Wed Nov 11 2026. No macro, syntax, notation, axiom, sorry.
-/
import Derived.Test.YtncniilhhgjhnaaChecked
import GoSem.Claim
import GoSem.ClaimJoined
import GoSem.ClaimMapViews
import Derived.JoinedTies
import Derived.KernelRfl
namespace Go.Proofs.Ytncniilhhgjhnaa
/- THE CELL 'sum', in the pinned program and in every row, IS THE sha256 OF THE DUMP (.gsa) THAT YtncniilhhgjhnaaProg.lean LOADS. Nothing in Lean hashes anything: it is a label: what it is worth is what the hold of that sum in a sandbox is worth. -/
noncomputable def Try.pinned : Pinned := { name := "ytncniilhhgjhnaa", sum := "db1edbe0dffdc54df79bbe20121fff0870164f0594c1ee5bc9c0508023cc398a", checked := Try.checked }
namespace Rows
def none {H : Type} : Left H := { results := [], args := [] }

/-- 'laws.FnTokenValid': WHATEVER THE INPUT: true; the input reads as it did. -/
def fnTokenValidSpec : ChangeSpec := { name := "fnTokenValid", fn := fun _ => fun
  | [d] => { results := [.lit (.bool true)], args := [d] }
  | _ => none }
def fnTokenValidRow : OpenClaim := { program := "ytncniilhhgjhnaa", sum := "db1edbe0dffdc54df79bbe20121fff0870164f0594c1ee5bc9c0508023cc398a", func := "loop.example/macroprocessor/laws.FnTokenValid", spec := "fnTokenValid", inPlace := ["internal/bytealg.IndexByteString"], apart := false }
def FnTokenValidSaid : Prop := fnTokenValidRow.holds Try.pinned (OpenSpec.ofChange fnTokenValidSpec)

/-- ITS FALSE NEIGHBOUR: 'it returns false'. Refute it at one input. -/
def fnTokenValidWrong : ChangeSpec := { name := "fnTokenValid", fn := fun _ => fun
  | [d] => { results := [.lit (.bool false)], args := [d] }
  | _ => none }
def FnTokenValidWrongFalsely : Prop := fnTokenValidRow.holds Try.pinned (OpenSpec.ofChange fnTokenValidWrong)

/-- 'laws.FnExactTokensOf': WHATEVER THE INPUT: true; the input reads as it did. -/
def fnExactTokensOfSpec : ChangeSpec := { name := "fnExactTokensOf", fn := fun _ => fun
  | [d] => { results := [.lit (.bool true)], args := [d] }
  | _ => none }
def fnExactTokensOfRow : OpenClaim := { program := "ytncniilhhgjhnaa", sum := "db1edbe0dffdc54df79bbe20121fff0870164f0594c1ee5bc9c0508023cc398a", func := "loop.example/macroprocessor/laws.FnExactTokensOf", spec := "fnExactTokensOf", inPlace := ["internal/bytealg.IndexByteString"], apart := false }
def FnExactTokensOfSaid : Prop := fnExactTokensOfRow.holds Try.pinned (OpenSpec.ofChange fnExactTokensOfSpec)

/-- ITS FALSE NEIGHBOUR: 'it returns false'. Refute it at one input. -/
def fnExactTokensOfWrong : ChangeSpec := { name := "fnExactTokensOf", fn := fun _ => fun
  | [d] => { results := [.lit (.bool false)], args := [d] }
  | _ => none }
def FnExactTokensOfWrongFalsely : Prop := fnExactTokensOfRow.holds Try.pinned (OpenSpec.ofChange fnExactTokensOfWrong)

/-- 'laws.FnExactTokenValid': WHATEVER THE INPUT: true; the input reads as it did. -/
def fnExactTokenValidSpec : ChangeSpec := { name := "fnExactTokenValid", fn := fun _ => fun
  | [d] => { results := [.lit (.bool true)], args := [d] }
  | _ => none }
def fnExactTokenValidRow : OpenClaim := { program := "ytncniilhhgjhnaa", sum := "db1edbe0dffdc54df79bbe20121fff0870164f0594c1ee5bc9c0508023cc398a", func := "loop.example/macroprocessor/laws.FnExactTokenValid", spec := "fnExactTokenValid", inPlace := ["internal/bytealg.IndexByteString"], apart := false }
def FnExactTokenValidSaid : Prop := fnExactTokenValidRow.holds Try.pinned (OpenSpec.ofChange fnExactTokenValidSpec)

/-- ITS FALSE NEIGHBOUR: 'it returns false'. Refute it at one input. -/
def fnExactTokenValidWrong : ChangeSpec := { name := "fnExactTokenValid", fn := fun _ => fun
  | [d] => { results := [.lit (.bool false)], args := [d] }
  | _ => none }
def FnExactTokenValidWrongFalsely : Prop := fnExactTokenValidRow.holds Try.pinned (OpenSpec.ofChange fnExactTokenValidWrong)

/- THE SECOND FORM. 'bulk': how many values and letters a reading holds, each counted each time it is reached (what is shared counts as often as it is met; a slice's spare places count too). A statement '..UptoSaid' is the law's where the arguments, and the package variables that the reading takes, are together of bulk at most 1048576: NARROWER than '..Said'. Prove '..Said' where nothing that the law and all that it calls make is longer than what came in: it says more and counts as full. Else prove '..UptoSaid'. A law counts once. -/
mutual
def uptoBulk {H : Type} : DataW H → Nat
  | .lit (.string bytes) => bytes.length + 1
  | .lit _ => 1
  | .nil => 1
  | .ptr d => uptoBulk d + 1
  | .slice elems spare => uptoBulkAll elems + uptoBulkAll spare + 1
  | .agg parts => uptoBulkAll parts + 1
  | .iface _ d => uptoBulk d + 1
  | .map entries => uptoBulkEntries entries + 1
  | .held _ => 1
def uptoBulkAll {H : Type} : List (DataW H) → Nat
  | [] => 0
  | d :: r => uptoBulk d + uptoBulkAll r
def uptoBulkEntries {H : Type} : List (Lit × DataW H) → Nat
  | [] => 0
  | x :: r => uptoBulkEntry x + uptoBulkEntries r
def uptoBulkEntry {H : Type} : Lit × DataW H → Nat
  | (.string bytes, d) => bytes.length + uptoBulk d + 1
  | (_, d) => uptoBulk d + 1
 end
def uptoSmall : (H : Type) → List (DataW H) → Bool := fun _ ds => decide (uptoBulkAll ds ≤ 1048576)
def OpenSpec.upto (s : _root_.Go.ChangeSpec) : _root_.Go.OpenSpec := { _root_.Go.OpenSpec.ofChange s with cond := some uptoSmall }

/-- 'laws.FnTokenValid', WHERE WHAT IT READS IS OF BULK AT MOST 1048576: true; the input reads as it did. -/
def fnTokenValidUptoRow : OpenClaim := { program := "ytncniilhhgjhnaa", sum := "db1edbe0dffdc54df79bbe20121fff0870164f0594c1ee5bc9c0508023cc398a", func := "loop.example/macroprocessor/laws.FnTokenValid", spec := "fnTokenValid", inPlace := ["internal/bytealg.IndexByteString"], apart := false, narrowed := true }
def FnTokenValidUptoSaid : Prop := fnTokenValidUptoRow.holds Try.pinned (OpenSpec.upto fnTokenValidSpec)

/-- 'laws.FnExactTokensOf', WHERE WHAT IT READS IS OF BULK AT MOST 1048576: true; the input reads as it did. -/
def fnExactTokensOfUptoRow : OpenClaim := { program := "ytncniilhhgjhnaa", sum := "db1edbe0dffdc54df79bbe20121fff0870164f0594c1ee5bc9c0508023cc398a", func := "loop.example/macroprocessor/laws.FnExactTokensOf", spec := "fnExactTokensOf", inPlace := ["internal/bytealg.IndexByteString"], apart := false, narrowed := true }
def FnExactTokensOfUptoSaid : Prop := fnExactTokensOfUptoRow.holds Try.pinned (OpenSpec.upto fnExactTokensOfSpec)

/-- 'laws.FnExactTokenValid', WHERE WHAT IT READS IS OF BULK AT MOST 1048576: true; the input reads as it did. -/
def fnExactTokenValidUptoRow : OpenClaim := { program := "ytncniilhhgjhnaa", sum := "db1edbe0dffdc54df79bbe20121fff0870164f0594c1ee5bc9c0508023cc398a", func := "loop.example/macroprocessor/laws.FnExactTokenValid", spec := "fnExactTokenValid", inPlace := ["internal/bytealg.IndexByteString"], apart := false, narrowed := true }
def FnExactTokenValidUptoSaid : Prop := fnExactTokenValidUptoRow.holds Try.pinned (OpenSpec.upto fnExactTokenValidSpec)

end Rows
end Go.Proofs.Ytncniilhhgjhnaa
