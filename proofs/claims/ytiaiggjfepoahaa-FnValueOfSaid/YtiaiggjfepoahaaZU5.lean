/- Texts that the proof of U stands on, in one file. -/
import Derived.Test.YtiaiggjfepoahaaZU4
import Derived.Test.YtiaiggjfepoahaaZU2
import Derived.Test.YtiaiggjfepoahaaZU3
import Derived.Deep.RegionHeld3
import Derived.Deep.QuietTactic
import Derived.BigQuiet
import Derived.Outline
import Derived.StillTailTactics
import Derived.Deep.Fields
import Derived.ChangeSame
set_option linter.unusedVariables false
set_option linter.unusedSimpArgs false
/- What is printed is read again; tokens of a line are valid: no program. -/
namespace Go.Proofs.Ytiaiggjfepoahaa
open Go.RowKit

def bAt (s : ByteArray) (j : Nat) : Option UInt8 := if h : j < s.size then some s[j] else none
theorem bAt_lt {s : ByteArray} {j : Nat} (h : j < s.size) : bAt s j = some s[j] := by unfold bAt; rw [dif_pos h]
theorem bAt_ge {s : ByteArray} {j : Nat} (h : s.size ≤ j) : bAt s j = none := by unfold bAt; rw [dif_neg (by omega)]
theorem bAt_some {s : ByteArray} {j : Nat} {c : UInt8} (h : bAt s j = some c) : ∃ hj : j < s.size, s[j] = c := by
  by_cases hj : j < s.size
  · rw [bAt_lt hj, Option.some.injEq] at h; exact ⟨hj, h⟩
  · rw [bAt_ge (by omega)] at h; exact absurd h (by simp)
theorem bAt_left {s t : ByteArray} {j : Nat} (h : j < s.size) : bAt (s ++ t) j = bAt s j := by
  rw [bAt_lt (by rw [ByteArray.size_append]; omega), bAt_lt h, ByteArray.getElem_append_left h]
theorem bAt_right {s t : ByteArray} {i j : Nat} (h : i = s.size + j) : bAt (s ++ t) i = bAt t j := by
  subst h
  by_cases hj : j < t.size
  · rw [bAt_lt (by rw [ByteArray.size_append]; omega), bAt_lt hj, ByteArray.getElem_append_right (by omega)]
    congr 2; omega
  · rw [bAt_ge (by rw [ByteArray.size_append]; omega), bAt_ge (by omega)]
def AllOk (s : ByteArray) : Prop := ∀ j c, bAt s j = some c → okByte c = true
theorem AllOk.app {a b : ByteArray} (ha : AllOk a) (hb : AllOk b) : AllOk (a ++ b) := fun j c h => by
  by_cases hj : j < a.size
  · rw [bAt_left hj] at h; exact ha j c h
  · rw [bAt_right (j := j - a.size) (by omega)] at h; exact hb _ c h
theorem AllOk.of {s : ByteArray} (h : lineOk s = true) : AllOk s := fun j c hc => by
  obtain ⟨hj, rfl⟩ := bAt_some hc
  unfold lineOk at h
  rw [Bool.and_eq_true, List.all_eq_true] at h
  exact h.2 _ (by simp [ByteArray.getElem_eq_getElem_data])
theorem AllOk.line {s : ByteArray} (h : AllOk s) (hs : s.size ≤ 200) : lineOk s = true := by
  rw [lineOk_yes (k := s.size) (fun j hj _ => h j _ (bAt_lt hj)) (Nat.le_refl _)]
  exact decide_eq_true hs
end Go.Proofs.Ytiaiggjfepoahaa

/- Macros: their validity, their texts, and how they are read: no program. -/
namespace Go.Proofs.Ytiaiggjfepoahaa
open Go.RowKit

structure DMacro where
  name : ByteArray
  function : Bool
  params : List ByteArray
  body : List Tok

/-! ### Valid macros -/
end Go.Proofs.Ytiaiggjfepoahaa

/- Macro: its shape, and the law's own helpers. (Made by rec.py.) -/
namespace Go.Proofs.Ytiaiggjfepoahaa
open Go.RowKit Go.ChangeShapes Go.WideShapes Go.Deep
section
variable {H : Type} {enc : TypeId × Value → H} {P : Program} {w : World} {base : Nat} {spare : Nat → Bool} {held : Bool}
end
section
variable {H : Type} {enc : TypeId × Value → H} {w : World} {base : Nat} {spare : Nat → Bool} {held : Bool}
end
end Go.Proofs.Ytiaiggjfepoahaa

/- Whether two tokens need a space between them: the program and its model. -/
namespace Go.Proofs.Ytiaiggjfepoahaa
open Go.RowKit

def begins (x y : UInt8) : Bool := decide (x.toNat = 47) && (decide (y.toNat = 47) || decide (y.toNat = 42))
end Go.Proofs.Ytiaiggjfepoahaa

/- Whether two texts are read otherwise together: the model. -/
namespace Go.Proofs.Ytiaiggjfepoahaa
open Go.RowKit
end Go.Proofs.Ytiaiggjfepoahaa

/- PrintTokens: the model. -/
namespace Go.Proofs.Ytiaiggjfepoahaa
open Go.RowKit
end Go.Proofs.Ytiaiggjfepoahaa

/- Macros: the model's own helpers; what both sides walk over. -/
namespace Go.Proofs.Ytiaiggjfepoahaa
open Go.RowKit
end Go.Proofs.Ytiaiggjfepoahaa

/- The text of a macro is read as the macro again: no program. -/
namespace Go.Proofs.Ytiaiggjfepoahaa
open Go.RowKit

/-! ### Tokens that need no space between them -/
def markT (c : UInt8) : Tok := ⟨4, ⟨#[c]⟩, false, []⟩
def nameT (s : ByteArray) : Tok := ⟨1, s, false, []⟩
/-! ### Printing token by token -/
/-! ### The tokens of a macro's text -/
/-- The head's tokens up to the parameter k. -/
def hL (m : DMacro) : Nat → List Tok
  | 0 => [nameT m.name, markT 40]
  | k + 1 => (if 0 < k then hL m k ++ [markT 44] else hL m k) ++ [nameT (if h : k < m.params.length then m.params[k] else ⟨#[]⟩)]
/-! ### Reading it -/
/-! ### What the other promises ask -/
end Go.Proofs.Ytiaiggjfepoahaa
