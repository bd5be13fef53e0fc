/-
  No cell of these rows narrows 'for every input' (looked for: loops, veiled, ifaces, maps, wideKeys, modest, calm, conditions, laid).
  DERIVED. THE GIVEN ROWS OF THIS SEAT. 6 by the template 'for every input the law returns true; each argument reads behind the call as it read before'; 0 by the template 'total and deterministic' (their statements: YtigbaeokccknaaaTotals.lean).
  GIVEN WITH THE SEED: the statements are not yours to turn. If you find one false, say at which input.
  Laid BY PROGRAM, IN A SANDBOX (cutbox-rows.mjs): the forced cells as the released guide's own fill.sh prints them over the translation 9cdb55b02970ec3c… (all of the seat's roots in one cut). By AI agents, Wed Nov 11 2026. No macro, syntax, notation, axiom, sorry.
-/
import Derived.Test.YtigbaeokccknaaaChecked
import GoSem.Claim
import GoSem.ClaimJoined
import GoSem.ClaimMapViews
import Derived.JoinedTies
import Derived.KernelRfl
namespace Go.Proofs.Ytigbaeokccknaaa
/- THE CELL 'sum', in the pinned program and in every row, IS THE sha256 OF THE DUMP (.gsa) THAT YtigbaeokccknaaaProg.lean LOADS. Nothing in Lean hashes anything: it is a label: what it is worth is what the hold of that sum in a sandbox is worth. -/
noncomputable def Try.pinned : Pinned := { name := "ytigbaeokccknaaa", sum := "9cdb55b02970ec3c04e8811179af07bb9a91c46e45b5deb710e2e156a4e4746a", checked := Try.checked }
namespace Rows
def none {H : Type} : Left H := { results := [], args := [] }

/-- 'laws.FnMacroValid': WHATEVER THE INPUT: true; the input reads as it did. -/
def fnMacroValidSpec : ChangeSpec := { name := "fnMacroValid", fn := fun _ => fun
  | [d] => { results := [.lit (.bool true)], args := [d] }
  | _ => none }
def fnMacroValidRow : OpenClaim := { program := "ytigbaeokccknaaa", sum := "9cdb55b02970ec3c04e8811179af07bb9a91c46e45b5deb710e2e156a4e4746a", func := "loop.example/macroprocessor/laws.FnMacroValid", spec := "fnMacroValid", inPlace := ["internal/bytealg.IndexByteString"], apart := false }
def FnMacroValidSaid : Prop := fnMacroValidRow.holds Try.pinned (OpenSpec.ofChange fnMacroValidSpec)

/-- ITS FALSE NEIGHBOUR: 'it returns false'. Refute it at one input. -/
def fnMacroValidWrong : ChangeSpec := { name := "fnMacroValid", fn := fun _ => fun
  | [d] => { results := [.lit (.bool false)], args := [d] }
  | _ => none }
def FnMacroValidWrongFalsely : Prop := fnMacroValidRow.holds Try.pinned (OpenSpec.ofChange fnMacroValidWrong)

/-- 'laws.FnMacroText': WHATEVER THE INPUT: true; the input reads as it did. -/
def fnMacroTextSpec : ChangeSpec := { name := "fnMacroText", fn := fun _ => fun
  | [d] => { results := [.lit (.bool true)], args := [d] }
  | _ => none }
def fnMacroTextRow : OpenClaim := { program := "ytigbaeokccknaaa", sum := "9cdb55b02970ec3c04e8811179af07bb9a91c46e45b5deb710e2e156a4e4746a", func := "loop.example/macroprocessor/laws.FnMacroText", spec := "fnMacroText", inPlace := ["internal/bytealg.IndexByteString", "internal/abi.NoEscape", "internal/bytealg.MakeNoZero"], unfollowed := true, recurses := true, apart := false }
def FnMacroTextSaid : Prop := fnMacroTextRow.holds Try.pinned (OpenSpec.ofChange fnMacroTextSpec)

/-- ITS FALSE NEIGHBOUR: 'it returns false'. Refute it at one input. -/
def fnMacroTextWrong : ChangeSpec := { name := "fnMacroText", fn := fun _ => fun
  | [d] => { results := [.lit (.bool false)], args := [d] }
  | _ => none }
def FnMacroTextWrongFalsely : Prop := fnMacroTextRow.holds Try.pinned (OpenSpec.ofChange fnMacroTextWrong)

/-- 'laws.FnMacroOf': WHATEVER THE INPUT: true; the input reads as it did. -/
def fnMacroOfSpec : ChangeSpec := { name := "fnMacroOf", fn := fun _ => fun
  | [d] => { results := [.lit (.bool true)], args := [d] }
  | _ => none }
def fnMacroOfRow : OpenClaim := { program := "ytigbaeokccknaaa", sum := "9cdb55b02970ec3c04e8811179af07bb9a91c46e45b5deb710e2e156a4e4746a", func := "loop.example/macroprocessor/laws.FnMacroOf", spec := "fnMacroOf", inPlace := ["internal/bytealg.IndexByteString", "internal/abi.NoEscape", "internal/bytealg.MakeNoZero"], unfollowed := true, recurses := true, apart := false }
def FnMacroOfSaid : Prop := fnMacroOfRow.holds Try.pinned (OpenSpec.ofChange fnMacroOfSpec)

/-- ITS FALSE NEIGHBOUR: 'it returns false'. Refute it at one input. -/
def fnMacroOfWrong : ChangeSpec := { name := "fnMacroOf", fn := fun _ => fun
  | [d] => { results := [.lit (.bool false)], args := [d] }
  | _ => none }
def FnMacroOfWrongFalsely : Prop := fnMacroOfRow.holds Try.pinned (OpenSpec.ofChange fnMacroOfWrong)

/-- 'laws.FnExactMacroValid': WHATEVER THE INPUT: true; the input reads as it did. -/
def fnExactMacroValidSpec : ChangeSpec := { name := "fnExactMacroValid", fn := fun _ => fun
  | [d] => { results := [.lit (.bool true)], args := [d] }
  | _ => none }
def fnExactMacroValidRow : OpenClaim := { program := "ytigbaeokccknaaa", sum := "9cdb55b02970ec3c04e8811179af07bb9a91c46e45b5deb710e2e156a4e4746a", func := "loop.example/macroprocessor/laws.FnExactMacroValid", spec := "fnExactMacroValid", inPlace := ["internal/bytealg.IndexByteString"], apart := false }
def FnExactMacroValidSaid : Prop := fnExactMacroValidRow.holds Try.pinned (OpenSpec.ofChange fnExactMacroValidSpec)

/-- ITS FALSE NEIGHBOUR: 'it returns false'. Refute it at one input. -/
def fnExactMacroValidWrong : ChangeSpec := { name := "fnExactMacroValid", fn := fun _ => fun
  | [d] => { results := [.lit (.bool false)], args := [d] }
  | _ => none }
def FnExactMacroValidWrongFalsely : Prop := fnExactMacroValidRow.holds Try.pinned (OpenSpec.ofChange fnExactMacroValidWrong)

/-- 'laws.FnExactMacroText': WHATEVER THE INPUT: true; the input reads as it did. -/
def fnExactMacroTextSpec : ChangeSpec := { name := "fnExactMacroText", fn := fun _ => fun
  | [d] => { results := [.lit (.bool true)], args := [d] }
  | _ => none }
def fnExactMacroTextRow : OpenClaim := { program := "ytigbaeokccknaaa", sum := "9cdb55b02970ec3c04e8811179af07bb9a91c46e45b5deb710e2e156a4e4746a", func := "loop.example/macroprocessor/laws.FnExactMacroText", spec := "fnExactMacroText", inPlace := ["internal/bytealg.IndexByteString", "internal/abi.NoEscape", "internal/bytealg.MakeNoZero"], apart := false }
def FnExactMacroTextSaid : Prop := fnExactMacroTextRow.holds Try.pinned (OpenSpec.ofChange fnExactMacroTextSpec)

/-- ITS FALSE NEIGHBOUR: 'it returns false'. Refute it at one input. -/
def fnExactMacroTextWrong : ChangeSpec := { name := "fnExactMacroText", fn := fun _ => fun
  | [d] => { results := [.lit (.bool false)], args := [d] }
  | _ => none }
def FnExactMacroTextWrongFalsely : Prop := fnExactMacroTextRow.holds Try.pinned (OpenSpec.ofChange fnExactMacroTextWrong)

/-- 'laws.FnExactMacroOf': WHATEVER THE INPUT: true; the input reads as it did. -/
def fnExactMacroOfSpec : ChangeSpec := { name := "fnExactMacroOf", fn := fun _ => fun
  | [d] => { results := [.lit (.bool true)], args := [d] }
  | _ => none }
def fnExactMacroOfRow : OpenClaim := { program := "ytigbaeokccknaaa", sum := "9cdb55b02970ec3c04e8811179af07bb9a91c46e45b5deb710e2e156a4e4746a", func := "loop.example/macroprocessor/laws.FnExactMacroOf", spec := "fnExactMacroOf", inPlace := ["internal/bytealg.IndexByteString"], unfollowed := true, recurses := true, apart := false }
def FnExactMacroOfSaid : Prop := fnExactMacroOfRow.holds Try.pinned (OpenSpec.ofChange fnExactMacroOfSpec)

/-- ITS FALSE NEIGHBOUR: 'it returns false'. Refute it at one input. -/
def fnExactMacroOfWrong : ChangeSpec := { name := "fnExactMacroOf", fn := fun _ => fun
  | [d] => { results := [.lit (.bool false)], args := [d] }
  | _ => none }
def FnExactMacroOfWrongFalsely : Prop := fnExactMacroOfRow.holds Try.pinned (OpenSpec.ofChange fnExactMacroOfWrong)

/- THE SECOND FORM. 'bulk': how many values and letters a reading holds, each counted each time it is reached (what is shared counts as often as it is met; a slice's spare places count too). A statement '..UptoSaid' is the law's where the arguments, and the package variables that the reading takes, are together of bulk at most 1048576: NARROWER than '..Said'. Prove '..Said' where nothing that the law and all that it calls make is longer than what came in: it says more and counts as full. Else prove '..UptoSaid'. A law counts once. -/
mutual
def uptoBulk {H : Type} : DataW H → Nat
  | .lit (.string bytes) => bytes.length + 1
  | .lit _ => 1
  | .nil => 1
  | .ptr d => uptoBulk d + 1
  | .slice elems spare => uptoBulkAll elems + uptoBulkAll spare + 1
  | .agg parts => uptoBulkAll parts + 1
  | .iface _ d => uptoBulk d + 1
  | .map entries => uptoBulkEntries entries + 1
  | .held _ => 1
def uptoBulkAll {H : Type} : List (DataW H) → Nat
  | [] => 0
  | d :: r => uptoBulk d + uptoBulkAll r
def uptoBulkEntries {H : Type} : List (Lit × DataW H) → Nat
  | [] => 0
  | x :: r => uptoBulkEntry x + uptoBulkEntries r
def uptoBulkEntry {H : Type} : Lit × DataW H → Nat
  | (.string bytes, d) => bytes.length + uptoBulk d + 1
  | (_, d) => uptoBulk d + 1
 end
def uptoSmall : (H : Type) → List (DataW H) → Bool := fun _ ds => decide (uptoBulkAll ds ≤ 1048576)
def OpenSpec.upto (s : _root_.Go.ChangeSpec) : _root_.Go.OpenSpec := { _root_.Go.OpenSpec.ofChange s with cond := some uptoSmall }

/-- 'laws.FnMacroValid', WHERE WHAT IT READS IS OF BULK AT MOST 1048576: true; the input reads as it did. -/
def fnMacroValidUptoRow : OpenClaim := { program := "ytigbaeokccknaaa", sum := "9cdb55b02970ec3c04e8811179af07bb9a91c46e45b5deb710e2e156a4e4746a", func := "loop.example/macroprocessor/laws.FnMacroValid", spec := "fnMacroValid", inPlace := ["internal/bytealg.IndexByteString"], apart := false, narrowed := true }
def FnMacroValidUptoSaid : Prop := fnMacroValidUptoRow.holds Try.pinned (OpenSpec.upto fnMacroValidSpec)

/-- 'laws.FnMacroText', WHERE WHAT IT READS IS OF BULK AT MOST 1048576: true; the input reads as it did. -/
def fnMacroTextUptoRow : OpenClaim := { program := "ytigbaeokccknaaa", sum := "9cdb55b02970ec3c04e8811179af07bb9a91c46e45b5deb710e2e156a4e4746a", func := "loop.example/macroprocessor/laws.FnMacroText", spec := "fnMacroText", inPlace := ["internal/bytealg.IndexByteString", "internal/abi.NoEscape", "internal/bytealg.MakeNoZero"], unfollowed := true, recurses := true, apart := false, narrowed := true }
def FnMacroTextUptoSaid : Prop := fnMacroTextUptoRow.holds Try.pinned (OpenSpec.upto fnMacroTextSpec)

/-- 'laws.FnMacroOf', WHERE WHAT IT READS IS OF BULK AT MOST 1048576: true; the input reads as it did. -/
def fnMacroOfUptoRow : OpenClaim := { program := "ytigbaeokccknaaa", sum := "9cdb55b02970ec3c04e8811179af07bb9a91c46e45b5deb710e2e156a4e4746a", func := "loop.example/macroprocessor/laws.FnMacroOf", spec := "fnMacroOf", inPlace := ["internal/bytealg.IndexByteString", "internal/abi.NoEscape", "internal/bytealg.MakeNoZero"], unfollowed := true, recurses := true, apart := false, narrowed := true }
def FnMacroOfUptoSaid : Prop := fnMacroOfUptoRow.holds Try.pinned (OpenSpec.upto fnMacroOfSpec)

/-- 'laws.FnExactMacroValid', WHERE WHAT IT READS IS OF BULK AT MOST 1048576: true; the input reads as it did. -/
def fnExactMacroValidUptoRow : OpenClaim := { program := "ytigbaeokccknaaa", sum := "9cdb55b02970ec3c04e8811179af07bb9a91c46e45b5deb710e2e156a4e4746a", func := "loop.example/macroprocessor/laws.FnExactMacroValid", spec := "fnExactMacroValid", inPlace := ["internal/bytealg.IndexByteString"], apart := false, narrowed := true }
def FnExactMacroValidUptoSaid : Prop := fnExactMacroValidUptoRow.holds Try.pinned (OpenSpec.upto fnExactMacroValidSpec)

/-- 'laws.FnExactMacroText', WHERE WHAT IT READS IS OF BULK AT MOST 1048576: true; the input reads as it did. -/
def fnExactMacroTextUptoRow : OpenClaim := { program := "ytigbaeokccknaaa", sum := "9cdb55b02970ec3c04e8811179af07bb9a91c46e45b5deb710e2e156a4e4746a", func := "loop.example/macroprocessor/laws.FnExactMacroText", spec := "fnExactMacroText", inPlace := ["internal/bytealg.IndexByteString", "internal/abi.NoEscape", "internal/bytealg.MakeNoZero"], apart := false, narrowed := true }
def FnExactMacroTextUptoSaid : Prop := fnExactMacroTextUptoRow.holds Try.pinned (OpenSpec.upto fnExactMacroTextSpec)

/-- 'laws.FnExactMacroOf', WHERE WHAT IT READS IS OF BULK AT MOST 1048576: true; the input reads as it did. -/
def fnExactMacroOfUptoRow : OpenClaim := { program := "ytigbaeokccknaaa", sum := "9cdb55b02970ec3c04e8811179af07bb9a91c46e45b5deb710e2e156a4e4746a", func := "loop.example/macroprocessor/laws.FnExactMacroOf", spec := "fnExactMacroOf", inPlace := ["internal/bytealg.IndexByteString"], unfollowed := true, recurses := true, apart := false, narrowed := true }
def FnExactMacroOfUptoSaid : Prop := fnExactMacroOfUptoRow.holds Try.pinned (OpenSpec.upto fnExactMacroOfSpec)

end Rows
end Go.Proofs.Ytigbaeokccknaaa
