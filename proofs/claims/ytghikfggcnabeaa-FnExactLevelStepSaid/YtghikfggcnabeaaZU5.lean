/- Texts that the proof of U stands on, in one file. -/
import Derived.Test.YtghikfggcnabeaaZU4
import Derived.Test.YtghikfggcnabeaaZU2
import Derived.Laws.Cover1
import Derived.Outline
import Derived.Test.YtghikfggcnabeaaZU3
set_option linter.unusedVariables false
set_option linter.unusedSimpArgs false
/- TokensOf of the model; TokenValid of both. -/
namespace Go.Proofs.Ytghikfggcnabeaa
open Go.RowKit
end Go.Proofs.Ytghikfggcnabeaa

/- TokenValid of the program. -/
namespace Go.Proofs.Ytghikfggcnabeaa
open Go.RowKit
end Go.Proofs.Ytghikfggcnabeaa

/- TokenValid of the model. -/
namespace Go.Proofs.Ytghikfggcnabeaa
open Go.RowKit
section
variable {w w1 : World} {ty : TypeId} {v0 v1 v2 v3 : Value}
end
end Go.Proofs.Ytghikfggcnabeaa

/- SameTexts and TokensValid of both. -/
namespace Go.Proofs.Ytghikfggcnabeaa
open Go.RowKit
end Go.Proofs.Ytghikfggcnabeaa

/- Printing tokens: no program. -/
namespace Go.Proofs.Ytghikfggcnabeaa
open Go.RowKit
end Go.Proofs.Ytghikfggcnabeaa

/- How many tokens there are: no program. -/
namespace Go.Proofs.Ytghikfggcnabeaa
open Go.RowKit
end Go.Proofs.Ytghikfggcnabeaa

/- What is printed is read again; tokens of a line are valid: no program. -/
namespace Go.Proofs.Ytghikfggcnabeaa
open Go.RowKit

def bAt (s : ByteArray) (j : Nat) : Option UInt8 := if h : j < s.size then some s[j] else none
theorem bAt_lt {s : ByteArray} {j : Nat} (h : j < s.size) : bAt s j = some s[j] := by unfold bAt; rw [dif_pos h]
theorem bAt_ge {s : ByteArray} {j : Nat} (h : s.size ≤ j) : bAt s j = none := by unfold bAt; rw [dif_neg (by omega)]
theorem bAt_some {s : ByteArray} {j : Nat} {c : UInt8} (h : bAt s j = some c) : ∃ hj : j < s.size, s[j] = c := by
 by_cases hj : j < s.size
 ·rw [bAt_lt hj, Option.some.injEq] at h; exact ⟨hj, h⟩
 ·rw [bAt_ge (by omega)] at h; exact absurd h (by simp)
def AllOk (s : ByteArray) : Prop := ∀ j c, bAt s j = some c → okByte c = true
theorem AllOk.of {s : ByteArray} (h : lineOk s = true) : AllOk s := fun j c hc => by
 obtain ⟨hj, rfl⟩ := bAt_some hc
 unfold lineOk at h
 rw [Bool.and_eq_true, List.all_eq_true] at h
 exact h.2 _ (by simp [ByteArray.getElem_eq_getElem_data])
end Go.Proofs.Ytghikfggcnabeaa

/- Macros: their validity, their texts, and how they are read: no program. -/
namespace Go.Proofs.Ytghikfggcnabeaa
open Go.RowKit

structure DMacro where
 name : ByteArray
 function : Bool
 params : List ByteArray
 body : List Tok

/-! ### Valid macros -/
end Go.Proofs.Ytghikfggcnabeaa
