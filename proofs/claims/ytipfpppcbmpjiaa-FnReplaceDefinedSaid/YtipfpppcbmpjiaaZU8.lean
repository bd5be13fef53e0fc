/- Texts that the proof of U stands on, in one file. -/
import Derived.Test.YtipfpppcbmpjiaaZU1
import Derived.Test.YtipfpppcbmpjiaaZU7
import Derived.Test.YtipfpppcbmpjiaaZU6
import Derived.Lib.AppendStr
import Derived.Laws.IdiomStrings
import Derived.Test.YtipfpppcbmpjiaaZU4
import Derived.Test.YtipfpppcbmpjiaaZU3
import Derived.Test.YtipfpppcbmpjiaaZU5
import Derived.Deep.Cut
set_option linter.unusedVariables false
set_option linter.unusedSimpArgs false
/- Lists of a given length. -/
namespace Go.Proofs.Ytipfpppcbmpjiaa
open Go.RowKit
theorem cons_of_len {n : Nat} {xs : List Value} (h : xs.length = n + 1) : ∃ x t, xs = x :: t ∧ t.length = n := by
  cases xs with
  | nil => simp at h
  | cons x t => exact ⟨x, t, rfl, by simpa using h⟩
theorem len1 {xs : List Value} (h : xs.length = 1) : ∃ x0, xs = [x0] := by
  obtain ⟨x, t, rfl, ht⟩ := cons_of_len (n := 0) h
  exact ⟨x, by rw [List.eq_nil_of_length_eq_zero ht]⟩
theorem len2 {xs : List Value} (h : xs.length = 2) : ∃ x0 x1, xs = [x0, x1] := by
  obtain ⟨x0, t, rfl, ht⟩ := cons_of_len (n := 1) h
  obtain ⟨x1, rfl⟩ := len1 ht
  exact ⟨x0, x1, rfl⟩
theorem len3 {xs : List Value} (h : xs.length = 3) : ∃ x0 x1 x2, xs = [x0, x1, x2] := by
  obtain ⟨x0, t, rfl, ht⟩ := cons_of_len (n := 2) h
  obtain ⟨x1, x2, rfl⟩ := len2 ht
  exact ⟨x0, x1, x2, rfl⟩
theorem len4 {xs : List Value} (h : xs.length = 4) : ∃ x0 x1 x2 x3, xs = [x0, x1, x2, x3] := by
  obtain ⟨x0, t, rfl, ht⟩ := cons_of_len (n := 3) h
  obtain ⟨x1, x2, x3, rfl⟩ := len3 ht
  exact ⟨x0, x1, x2, x3, rfl⟩
theorem len5 {xs : List Value} (h : xs.length = 5) : ∃ x0 x1 x2 x3 x4, xs = [x0, x1, x2, x3, x4] := by
  obtain ⟨x0, t, rfl, ht⟩ := cons_of_len (n := 4) h
  obtain ⟨x1, x2, x3, x4, rfl⟩ := len4 ht
  exact ⟨x0, x1, x2, x3, x4, rfl⟩
theorem len6 {xs : List Value} (h : xs.length = 6) : ∃ x0 x1 x2 x3 x4 x5, xs = [x0, x1, x2, x3, x4, x5] := by
  obtain ⟨x0, t, rfl, ht⟩ := cons_of_len (n := 5) h
  obtain ⟨x1, x2, x3, x4, x5, rfl⟩ := len5 ht
  exact ⟨x0, x1, x2, x3, x4, x5, rfl⟩
theorem len7 {xs : List Value} (h : xs.length = 7) : ∃ x0 x1 x2 x3 x4 x5 x6, xs = [x0, x1, x2, x3, x4, x5, x6] := by
  obtain ⟨x0, t, rfl, ht⟩ := cons_of_len (n := 6) h
  obtain ⟨x1, x2, x3, x4, x5, x6, rfl⟩ := len6 ht
  exact ⟨x0, x1, x2, x3, x4, x5, x6, rfl⟩
theorem len8 {xs : List Value} (h : xs.length = 8) : ∃ x0 x1 x2 x3 x4 x5 x6 x7, xs = [x0, x1, x2, x3, x4, x5, x6, x7] := by
  obtain ⟨x0, t, rfl, ht⟩ := cons_of_len (n := 7) h
  obtain ⟨x1, x2, x3, x4, x5, x6, x7, rfl⟩ := len7 ht
  exact ⟨x0, x1, x2, x3, x4, x5, x6, x7, rfl⟩
theorem len9 {xs : List Value} (h : xs.length = 9) : ∃ x0 x1 x2 x3 x4 x5 x6 x7 x8, xs = [x0, x1, x2, x3, x4, x5, x6, x7, x8] := by
  obtain ⟨x0, t, rfl, ht⟩ := cons_of_len (n := 8) h
  obtain ⟨x1, x2, x3, x4, x5, x6, x7, x8, rfl⟩ := len8 ht
  exact ⟨x0, x1, x2, x3, x4, x5, x6, x7, x8, rfl⟩
theorem len10 {xs : List Value} (h : xs.length = 10) : ∃ x0 x1 x2 x3 x4 x5 x6 x7 x8 x9, xs = [x0, x1, x2, x3, x4, x5, x6, x7, x8, x9] := by
  obtain ⟨x0, t, rfl, ht⟩ := cons_of_len (n := 9) h
  obtain ⟨x1, x2, x3, x4, x5, x6, x7, x8, x9, rfl⟩ := len9 ht
  exact ⟨x0, x1, x2, x3, x4, x5, x6, x7, x8, x9, rfl⟩
theorem len11 {xs : List Value} (h : xs.length = 11) : ∃ x0 x1 x2 x3 x4 x5 x6 x7 x8 x9 x10, xs = [x0, x1, x2, x3, x4, x5, x6, x7, x8, x9, x10] := by
  obtain ⟨x0, t, rfl, ht⟩ := cons_of_len (n := 10) h
  obtain ⟨x1, x2, x3, x4, x5, x6, x7, x8, x9, x10, rfl⟩ := len10 ht
  exact ⟨x0, x1, x2, x3, x4, x5, x6, x7, x8, x9, x10, rfl⟩
theorem len12 {xs : List Value} (h : xs.length = 12) : ∃ x0 x1 x2 x3 x4 x5 x6 x7 x8 x9 x10 x11, xs = [x0, x1, x2, x3, x4, x5, x6, x7, x8, x9, x10, x11] := by
  obtain ⟨x0, t, rfl, ht⟩ := cons_of_len (n := 11) h
  obtain ⟨x1, x2, x3, x4, x5, x6, x7, x8, x9, x10, x11, rfl⟩ := len11 ht
  exact ⟨x0, x1, x2, x3, x4, x5, x6, x7, x8, x9, x10, x11, rfl⟩
theorem len13 {xs : List Value} (h : xs.length = 13) : ∃ x0 x1 x2 x3 x4 x5 x6 x7 x8 x9 x10 x11 x12, xs = [x0, x1, x2, x3, x4, x5, x6, x7, x8, x9, x10, x11, x12] := by
  obtain ⟨x0, t, rfl, ht⟩ := cons_of_len (n := 12) h
  obtain ⟨x1, x2, x3, x4, x5, x6, x7, x8, x9, x10, x11, x12, rfl⟩ := len12 ht
  exact ⟨x0, x1, x2, x3, x4, x5, x6, x7, x8, x9, x10, x11, x12, rfl⟩
theorem len14 {xs : List Value} (h : xs.length = 14) : ∃ x0 x1 x2 x3 x4 x5 x6 x7 x8 x9 x10 x11 x12 x13, xs = [x0, x1, x2, x3, x4, x5, x6, x7, x8, x9, x10, x11, x12, x13] := by
  obtain ⟨x0, t, rfl, ht⟩ := cons_of_len (n := 13) h
  obtain ⟨x1, x2, x3, x4, x5, x6, x7, x8, x9, x10, x11, x12, x13, rfl⟩ := len13 ht
  exact ⟨x0, x1, x2, x3, x4, x5, x6, x7, x8, x9, x10, x11, x12, x13, rfl⟩
theorem len15 {xs : List Value} (h : xs.length = 15) : ∃ x0 x1 x2 x3 x4 x5 x6 x7 x8 x9 x10 x11 x12 x13 x14, xs = [x0, x1, x2, x3, x4, x5, x6, x7, x8, x9, x10, x11, x12, x13, x14] := by
  obtain ⟨x0, t, rfl, ht⟩ := cons_of_len (n := 14) h
  obtain ⟨x1, x2, x3, x4, x5, x6, x7, x8, x9, x10, x11, x12, x13, x14, rfl⟩ := len14 ht
  exact ⟨x0, x1, x2, x3, x4, x5, x6, x7, x8, x9, x10, x11, x12, x13, x14, rfl⟩
theorem len16 {xs : List Value} (h : xs.length = 16) : ∃ x0 x1 x2 x3 x4 x5 x6 x7 x8 x9 x10 x11 x12 x13 x14 x15, xs = [x0, x1, x2, x3, x4, x5, x6, x7, x8, x9, x10, x11, x12, x13, x14, x15] := by
  obtain ⟨x0, t, rfl, ht⟩ := cons_of_len (n := 15) h
  obtain ⟨x1, x2, x3, x4, x5, x6, x7, x8, x9, x10, x11, x12, x13, x14, x15, rfl⟩ := len15 ht
  exact ⟨x0, x1, x2, x3, x4, x5, x6, x7, x8, x9, x10, x11, x12, x13, x14, x15, rfl⟩
theorem len17 {xs : List Value} (h : xs.length = 17) : ∃ x0 x1 x2 x3 x4 x5 x6 x7 x8 x9 x10 x11 x12 x13 x14 x15 x16, xs = [x0, x1, x2, x3, x4, x5, x6, x7, x8, x9, x10, x11, x12, x13, x14, x15, x16] := by
  obtain ⟨x0, t, rfl, ht⟩ := cons_of_len (n := 16) h
  obtain ⟨x1, x2, x3, x4, x5, x6, x7, x8, x9, x10, x11, x12, x13, x14, x15, x16, rfl⟩ := len16 ht
  exact ⟨x0, x1, x2, x3, x4, x5, x6, x7, x8, x9, x10, x11, x12, x13, x14, x15, x16, rfl⟩
theorem len18 {xs : List Value} (h : xs.length = 18) : ∃ x0 x1 x2 x3 x4 x5 x6 x7 x8 x9 x10 x11 x12 x13 x14 x15 x16 x17, xs = [x0, x1, x2, x3, x4, x5, x6, x7, x8, x9, x10, x11, x12, x13, x14, x15, x16, x17] := by
  obtain ⟨x0, t, rfl, ht⟩ := cons_of_len (n := 17) h
  obtain ⟨x1, x2, x3, x4, x5, x6, x7, x8, x9, x10, x11, x12, x13, x14, x15, x16, x17, rfl⟩ := len17 ht
  exact ⟨x0, x1, x2, x3, x4, x5, x6, x7, x8, x9, x10, x11, x12, x13, x14, x15, x16, x17, rfl⟩
theorem len19 {xs : List Value} (h : xs.length = 19) : ∃ x0 x1 x2 x3 x4 x5 x6 x7 x8 x9 x10 x11 x12 x13 x14 x15 x16 x17 x18, xs = [x0, x1, x2, x3, x4, x5, x6, x7, x8, x9, x10, x11, x12, x13, x14, x15, x16, x17, x18] := by
  obtain ⟨x0, t, rfl, ht⟩ := cons_of_len (n := 18) h
  obtain ⟨x1, x2, x3, x4, x5, x6, x7, x8, x9, x10, x11, x12, x13, x14, x15, x16, x17, x18, rfl⟩ := len18 ht
  exact ⟨x0, x1, x2, x3, x4, x5, x6, x7, x8, x9, x10, x11, x12, x13, x14, x15, x16, x17, x18, rfl⟩
theorem len20 {xs : List Value} (h : xs.length = 20) : ∃ x0 x1 x2 x3 x4 x5 x6 x7 x8 x9 x10 x11 x12 x13 x14 x15 x16 x17 x18 x19, xs = [x0, x1, x2, x3, x4, x5, x6, x7, x8, x9, x10, x11, x12, x13, x14, x15, x16, x17, x18, x19] := by
  obtain ⟨x0, t, rfl, ht⟩ := cons_of_len (n := 19) h
  obtain ⟨x1, x2, x3, x4, x5, x6, x7, x8, x9, x10, x11, x12, x13, x14, x15, x16, x17, x18, x19, rfl⟩ := len19 ht
  exact ⟨x0, x1, x2, x3, x4, x5, x6, x7, x8, x9, x10, x11, x12, x13, x14, x15, x16, x17, x18, x19, rfl⟩
theorem len21 {xs : List Value} (h : xs.length = 21) : ∃ x0 x1 x2 x3 x4 x5 x6 x7 x8 x9 x10 x11 x12 x13 x14 x15 x16 x17 x18 x19 x20, xs = [x0, x1, x2, x3, x4, x5, x6, x7, x8, x9, x10, x11, x12, x13, x14, x15, x16, x17, x18, x19, x20] := by
  obtain ⟨x0, t, rfl, ht⟩ := cons_of_len (n := 20) h
  obtain ⟨x1, x2, x3, x4, x5, x6, x7, x8, x9, x10, x11, x12, x13, x14, x15, x16, x17, x18, x19, x20, rfl⟩ := len20 ht
  exact ⟨x0, x1, x2, x3, x4, x5, x6, x7, x8, x9, x10, x11, x12, x13, x14, x15, x16, x17, x18, x19, x20, rfl⟩
theorem len22 {xs : List Value} (h : xs.length = 22) : ∃ x0 x1 x2 x3 x4 x5 x6 x7 x8 x9 x10 x11 x12 x13 x14 x15 x16 x17 x18 x19 x20 x21, xs = [x0, x1, x2, x3, x4, x5, x6, x7, x8, x9, x10, x11, x12, x13, x14, x15, x16, x17, x18, x19, x20, x21] := by
  obtain ⟨x0, t, rfl, ht⟩ := cons_of_len (n := 21) h
  obtain ⟨x1, x2, x3, x4, x5, x6, x7, x8, x9, x10, x11, x12, x13, x14, x15, x16, x17, x18, x19, x20, x21, rfl⟩ := len21 ht
  exact ⟨x0, x1, x2, x3, x4, x5, x6, x7, x8, x9, x10, x11, x12, x13, x14, x15, x16, x17, x18, x19, x20, x21, rfl⟩
theorem len23 {xs : List Value} (h : xs.length = 23) : ∃ x0 x1 x2 x3 x4 x5 x6 x7 x8 x9 x10 x11 x12 x13 x14 x15 x16 x17 x18 x19 x20 x21 x22, xs = [x0, x1, x2, x3, x4, x5, x6, x7, x8, x9, x10, x11, x12, x13, x14, x15, x16, x17, x18, x19, x20, x21, x22] := by
  obtain ⟨x0, t, rfl, ht⟩ := cons_of_len (n := 22) h
  obtain ⟨x1, x2, x3, x4, x5, x6, x7, x8, x9, x10, x11, x12, x13, x14, x15, x16, x17, x18, x19, x20, x21, x22, rfl⟩ := len22 ht
  exact ⟨x0, x1, x2, x3, x4, x5, x6, x7, x8, x9, x10, x11, x12, x13, x14, x15, x16, x17, x18, x19, x20, x21, x22, rfl⟩
theorem len24 {xs : List Value} (h : xs.length = 24) : ∃ x0 x1 x2 x3 x4 x5 x6 x7 x8 x9 x10 x11 x12 x13 x14 x15 x16 x17 x18 x19 x20 x21 x22 x23, xs = [x0, x1, x2, x3, x4, x5, x6, x7, x8, x9, x10, x11, x12, x13, x14, x15, x16, x17, x18, x19, x20, x21, x22, x23] := by
  obtain ⟨x0, t, rfl, ht⟩ := cons_of_len (n := 23) h
  obtain ⟨x1, x2, x3, x4, x5, x6, x7, x8, x9, x10, x11, x12, x13, x14, x15, x16, x17, x18, x19, x20, x21, x22, x23, rfl⟩ := len23 ht
  exact ⟨x0, x1, x2, x3, x4, x5, x6, x7, x8, x9, x10, x11, x12, x13, x14, x15, x16, x17, x18, x19, x20, x21, x22, x23, rfl⟩
theorem len25 {xs : List Value} (h : xs.length = 25) : ∃ x0 x1 x2 x3 x4 x5 x6 x7 x8 x9 x10 x11 x12 x13 x14 x15 x16 x17 x18 x19 x20 x21 x22 x23 x24, xs = [x0, x1, x2, x3, x4, x5, x6, x7, x8, x9, x10, x11, x12, x13, x14, x15, x16, x17, x18, x19, x20, x21, x22, x23, x24] := by
  obtain ⟨x0, t, rfl, ht⟩ := cons_of_len (n := 24) h
  obtain ⟨x1, x2, x3, x4, x5, x6, x7, x8, x9, x10, x11, x12, x13, x14, x15, x16, x17, x18, x19, x20, x21, x22, x23, x24, rfl⟩ := len24 ht
  exact ⟨x0, x1, x2, x3, x4, x5, x6, x7, x8, x9, x10, x11, x12, x13, x14, x15, x16, x17, x18, x19, x20, x21, x22, x23, x24, rfl⟩
theorem len26 {xs : List Value} (h : xs.length = 26) : ∃ x0 x1 x2 x3 x4 x5 x6 x7 x8 x9 x10 x11 x12 x13 x14 x15 x16 x17 x18 x19 x20 x21 x22 x23 x24 x25, xs = [x0, x1, x2, x3, x4, x5, x6, x7, x8, x9, x10, x11, x12, x13, x14, x15, x16, x17, x18, x19, x20, x21, x22, x23, x24, x25] := by
  obtain ⟨x0, t, rfl, ht⟩ := cons_of_len (n := 25) h
  obtain ⟨x1, x2, x3, x4, x5, x6, x7, x8, x9, x10, x11, x12, x13, x14, x15, x16, x17, x18, x19, x20, x21, x22, x23, x24, x25, rfl⟩ := len25 ht
  exact ⟨x0, x1, x2, x3, x4, x5, x6, x7, x8, x9, x10, x11, x12, x13, x14, x15, x16, x17, x18, x19, x20, x21, x22, x23, x24, x25, rfl⟩
theorem len27 {xs : List Value} (h : xs.length = 27) : ∃ x0 x1 x2 x3 x4 x5 x6 x7 x8 x9 x10 x11 x12 x13 x14 x15 x16 x17 x18 x19 x20 x21 x22 x23 x24 x25 x26, xs = [x0, x1, x2, x3, x4, x5, x6, x7, x8, x9, x10, x11, x12, x13, x14, x15, x16, x17, x18, x19, x20, x21, x22, x23, x24, x25, x26] := by
  obtain ⟨x0, t, rfl, ht⟩ := cons_of_len (n := 26) h
  obtain ⟨x1, x2, x3, x4, x5, x6, x7, x8, x9, x10, x11, x12, x13, x14, x15, x16, x17, x18, x19, x20, x21, x22, x23, x24, x25, x26, rfl⟩ := len26 ht
  exact ⟨x0, x1, x2, x3, x4, x5, x6, x7, x8, x9, x10, x11, x12, x13, x14, x15, x16, x17, x18, x19, x20, x21, x22, x23, x24, x25, x26, rfl⟩
end Go.Proofs.Ytipfpppcbmpjiaa

/- What slots hold in regions that draw their order, beside a reader. -/
namespace Go.Proofs.Ytipfpppcbmpjiaa
open Go.RowKit

def StepsFrom (P : Program) (ops : Array Oper) (Rl : World → World → Prop) (Ps : List (Value → World → Prop)) (J : Nat → World → Prop) (a : Act) : Nat → List Oper → Prop
  | _, [] => True
  | i, o :: t => StepOk P ops Rl Ps J a i o ∧ StepsFrom P ops Rl Ps J a (i + 1) t
theorem steps_of {P : Program} {ops : Array Oper} {Rl : World → World → Prop} {Ps : List (Value → World → Prop)} {J : Nat → World → Prop} {a : Act} :
    ∀ (l : List Oper) (k : Nat), (∀ j, l[j]? = ops[k + j]?) → StepsFrom P ops Rl Ps J a k l → ∀ i o, k ≤ i → ops[i]? = some o → StepOk P ops Rl Ps J a i o := by
  intro l
  induction l with
  | nil =>
    intro k h _ i o hk hi
    have := h (i - k)
    rw [show k + (i - k) = i from by omega, hi] at this
    simp at this
  | cons x t ih =>
    intro k h hs i o hk hi
    by_cases e : i = k
    · subst e
      have h0 := h 0
      rw [Nat.add_zero, hi] at h0
      simp only [List.getElem?_cons_zero, Option.some.injEq] at h0
      subst h0
      exact hs.1
    · exact ih (k + 1) (fun j => by have := h (j + 1); rw [List.getElem?_cons_succ] at this; rw [this]; congr 1; omega) hs.2 i o (by omega) hi
theorem steps_all {P : Program} {ops : Array Oper} {Rl : World → World → Prop} {Ps : List (Value → World → Prop)} {J : Nat → World → Prop} {a : Act} (h : StepsFrom P ops Rl Ps J a 0 ops.toList) :
    ∀ i o, ops[i]? = some o → StepOk P ops Rl Ps J a i o := fun i o hi => steps_of ops.toList 0 (fun j => by simp) h i o (Nat.zero_le _) hi

def Stable (fb : List Nat) (p : Value → World → Prop) : Prop := ∀ v w w', Kept fb w w' → p v w → p v w'
def StabAll (fb : List Nat) : List (Value → World → Prop) → Prop
  | [] => True
  | p :: t => Stable fb p ∧ StabAll fb t
theorem stab_all {fb : List Nat} : ∀ {Ps : List (Value → World → Prop)}, StabAll fb Ps → ∀ p ∈ Ps, ∀ v w w', Kept fb w w' → p v w → p v w'
  | [], _, p, hp => by cases hp
  | q :: t, h, p, hp => by
    rcases List.mem_cons.1 hp with rfl | hp
    · exact h.1
    · exact stab_all h.2 p hp

def pVal (x : Value) : Value → World → Prop := fun v _ => v = x
def pStr (M : Nat) : Value → World → Prop := fun v _ => ∃ s : ByteArray, v = .string s ∧ s.size ≤ M
def pInt (n : Int) : Value → World → Prop := fun v _ => ∃ r : Int, v = .int .i64 r ∧ 0 ≤ r ∧ r < n
def pLits (fb : List Nat) (n M : Nat) : Value → World → Prop := fun v w => ∃ b, v = .slice (some ⟨b, 0, none⟩) n n ∧ b ∉ fb ∧ b < w.heap.size ∧ ∀ j, j < n → ∃ s : ByteArray, w.cell? ⟨b, j, none⟩ = some (.string s) ∧ s.size ≤ M
def pPtr (fb : List Nat) (M : Nat) : Value → World → Prop := fun v w => ∃ (b j : Nat) (s : ByteArray), v = .pointer (some ⟨b, j, none⟩) ∧ b ∉ fb ∧ b < w.heap.size ∧ w.cell? ⟨b, j, none⟩ = some (.string s) ∧ s.size ≤ M
theorem stVal {fb : List Nat} (x : Value) : Stable fb (pVal x) := fun _ _ _ _ h => h
theorem stStr {fb : List Nat} (M : Nat) : Stable fb (pStr M) := fun _ _ _ _ h => h
theorem stInt {fb : List Nat} (n : Int) : Stable fb (pInt n) := fun _ _ _ _ h => h
theorem stLits {fb : List Nat} (n M : Nat) : Stable fb (pLits fb n M) := fun v w w' hk ⟨b, h1, h2, h3, h4⟩ =>
  ⟨b, h1, h2, Nat.lt_of_lt_of_le h3 hk.size, fun j hj => by
    obtain ⟨s, h5, h6⟩ := h4 j hj
    exact ⟨s, (hk.cell (p := ⟨b, j, none⟩) h3 h2).trans h5, h6⟩⟩
theorem stPtr {fb : List Nat} (M : Nat) : Stable fb (pPtr fb M) := fun v w w' hk ⟨b, j, s, h1, h2, h3, h4, h5⟩ =>
  ⟨b, j, s, h1, h2, Nat.lt_of_lt_of_le h3 hk.size, (hk.cell (p := ⟨b, j, none⟩) h3 h2).trans h4, h5⟩
theorem pLits_new (L : List ByteArray) (M : Nat) (fb : List Nat) (w : World) (hM : ∀ s ∈ L, s.size ≤ M) (hr : ∀ b ∈ fb, b < w.heap.size) (n : Nat) (hn : L.length = n) :
    pLits fb n M (.slice (some ⟨w.heap.size, 0, none⟩) n n) (w.alloc (.cells (L.map Value.string).toArray 9)) := by
  refine ⟨w.heap.size, rfl, fun h => by have := hr _ h; omega, by simp, fun j hj => ⟨L[j]'(by omega), ?_, hM _ (List.getElem_mem _)⟩⟩
  rw [World.cell?_alloc_at _ _ _ _ rfl]
  simp [List.getElem?_eq_getElem (show j < L.length by omega)]
/-- The reader's state while a region runs. -/
def jRd (rb p0 : Nat) (w0 : World) (m : Nat) (w : World) : Prop := (∃ p, p ≤ p0 + m ∧ Rd w rb p) ∧ Kept [rb] w0 w
theorem jRd.same {rb p0 m : Nat} {w0 w : World} (h : jRd rb p0 w0 m w) : jRd rb p0 w0 (m + 1) w := by
  obtain ⟨⟨p, h1, h2⟩, h3⟩ := h
  exact ⟨⟨p, by omega, h2⟩, h3⟩
theorem jRd.alloc {rb p0 m : Nat} {w0 w : World} (h : jRd rb p0 w0 m w) (o : Obj) : jRd rb p0 w0 (m + 1) (w.alloc o) := by
  obtain ⟨⟨p, h1, h2⟩, h3⟩ := h
  have hb := (Below.refl w.heap.size w).alloc (Nat.le_refl _) o
  exact ⟨⟨p, by omega, h2.grow hb⟩, h3.trans (Kept.of_below hb)⟩
theorem jRd.lt {rb p0 m : Nat} {w0 w : World} (h : jRd rb p0 w0 m w) : rb < w.heap.size := by
  obtain ⟨⟨p, h1, h2⟩, h3⟩ := h
  exact h2.lt
theorem jRd.lts {rb p0 m : Nat} {w0 w : World} (h : jRd rb p0 w0 m w) : ∀ b ∈ [rb], b < w.heap.size := fun b hb => by
  have : b = rb := by simpa using hb
  subst this; exact h.lt
theorem jRd.start {rb p : Nat} {w : World} (h : Rd w rb p) : jRd rb p w 0 { w with drawn := w.drawn + 1 } :=
  ⟨⟨p, by omega, ⟨h.ex, h.hp⟩⟩, (Kept.refl [rb] w).drewN 1⟩
theorem At.mk {Ps : List (Value → World → Prop)} {i : Nat} {p : Value → World → Prop} {v : Value} {w : World} (h : Ps[i]? = some p) (hp : p v w) : At Ps i v w := by
  intro q hq
  rw [h] at hq
  cases hq
  exact hp

theorem jRd.top {rb p0 m B : Nat} {w00 w0 w : World} (h : jRd rb p0 w0 m w) (hb : Below B w00 w0) (hr : B ≤ rb) (hs : B ≤ w0.heap.size) : Below B w00 w := kept_below hb h.2 hr hs
theorem own_kept {B e n rb : Nat} {v : Value} {xs : List Value} {w w' : World} (h : w.ownsRow B e 1 v n xs) (hk : Kept [rb] w w') (hr : rb < B) : w'.ownsRow B e 1 v n xs := by
  refine ⟨h.1, ?_⟩
  rcases h.2 with h0 | ⟨g, cap, cur, rfl, hb, hg, h1, h2, h3, h4⟩
  · exact .inl h0
  · exact .inr ⟨g, cap, cur, rfl, hb, (hk.block g (Array.getElem?_eq_some_iff.1 hg).1 (by simp; omega)).trans hg, h1, h2, h3, h4⟩

/-- A reader and a row of texts of the call's own: as at first, or, behind all, with one of them turned. -/
def jOwn (rb p0 : Nat) (w0 : World) (B : Nat) (v : Value) (L : List ByteArray) (k N M : Nat) (m : Nat) (w : World) : Prop :=
  (∃ p, p ≤ p0 + m ∧ Rd w rb p) ∧ Below w0.heap.size w0 w ∧
    (w.ownsRow B 9 1 v L.length (L.map Value.string) ∨ m = N ∧ ∃ s : ByteArray, s.size ≤ M ∧ w.ownsRow B 9 1 v L.length ((L.set k s).map Value.string))
section
variable {rb p0 B k N M m : Nat} {w0 w w' : World} {v : Value} {L : List ByteArray}
theorem jOwn.row (h : jOwn rb p0 w0 B v L k N M m w) (hm : m < N) : w.ownsRow B 9 1 v L.length (L.map Value.string) := by
  rcases h.2.2 with h | ⟨h, _⟩
  · exact h
  · omega
theorem jOwn.same (h : jOwn rb p0 w0 B v L k N M m w) (hm : m < N) : jOwn rb p0 w0 B v L k N M (m + 1) w := by
  obtain ⟨p, h1, h2⟩ := h.1
  exact ⟨⟨p, by omega, h2⟩, h.2.1, .inl (h.row hm)⟩
theorem Rd.kept {rb p : Nat} {fp : List Nat} {w w' : World} (h : Rd w rb p) (hk : Kept fp w w') (hf : ∀ b ∈ fp, rb < b) : Rd w' rb p := by
  have hlt := h.lt
  obtain ⟨⟨a, l, cap, fq, h1, h2, h3, h4⟩, h5⟩ := h
  refine ⟨⟨a, l, cap, fq, (hk.block rb hlt (fun hx => by have := hf rb hx; omega)).trans h1, (sSlice sByte).kept h2 (fun b hb hx => by have := hf b hx; have := h3 b hb; omega) hk, h3, h4⟩, h5⟩
theorem jOwn.store {g cap n : Nat} {s : ByteArray} (h : jOwn rb p0 w0 B (.slice (some ⟨g, 0, none⟩) n cap) L k N M m w) (hm : m < N) (hN : m + 1 = N) (hs : s.size ≤ M) (hrb : rb < B) (hg : B ≤ g) (hw0 : w0.heap.size ≤ B) :
    jOwn rb p0 w0 B (.slice (some ⟨g, 0, none⟩) n cap) L k N M (m + 1) (w.setCell ⟨g, k, none⟩ (.string s)) := by
  obtain ⟨p, h1, h2⟩ := h.1
  have hrow := h.row hm
  have hn : L.length = n := by
    rcases hrow.2 with ⟨h', _⟩ | ⟨g', cap', cur, h', _⟩
    · cases h'
    · simp only [Value.slice.injEq] at h'; exact h'.2.1.symm
  subst hn
  have hk : Kept [g] w (w.setCell ⟨g, k, none⟩ (.string s)) := (Kept.refl _ _).setCell (by simp) _
  refine ⟨⟨p, by omega, h2.kept hk (fun b hb => by have e : b = g := (by simpa using hb); omega)⟩, h.2.1.trans (hk.below (fun b hb => by have e : b = g := (by simpa using hb); omega) h.2.1.size), .inr ⟨hN, s, hs, ?_⟩⟩
  have := (hrow.stored k (.string s)).1
  rw [List.map_set]
  exact this
end
end Go.Proofs.Ytipfpppcbmpjiaa

/- Rows of bytes of the call's own. -/
namespace Go.Proofs.Ytipfpppcbmpjiaa
open Go.RowKit
def Bytes (base : Nat) (v : Value) (s : ByteArray) (w : World) : Prop := w.ownsRow base 5 1 v s.size (Lib.strCells s)
theorem Bytes.none (base : Nat) (w : World) : Bytes base (.slice Option.none 0 0) ⟨#[]⟩ w := World.ownsRow_nil _ _ _ _
end Go.Proofs.Ytipfpppcbmpjiaa

/- The drawing of a line. -/
namespace Go.Proofs.Ytipfpppcbmpjiaa
open Go.RowKit

/-- A text of at most M bytes is drawn, by at most n picks. -/
def Drawn (rb p n M : Nat) (w : World) (e : Ending) (w' : World) : Prop := ∃ (s : ByteArray) (q : Nat), e = .returned (.string s) ∧ s.size ≤ M ∧ q ≤ p + n ∧ Rd w' rb q ∧ Kept [rb] w w'
def line_lits : List ByteArray := [⟨#[10]⟩, ⟨#[127]⟩, ⟨#[64]⟩, ⟨#[34, 115]⟩, ⟨#[97, 98, 99, 100, 101, 102, 103, 104, 105, 106, 107, 108, 109]⟩, ⟨#[92]⟩]
theorem line_lits_size : ∀ s ∈ line_lits, s.size ≤ 13 := by decide

set_option maxHeartbeats 8000000 in
theorem l20Line (rb p : Nat) (n : Int) (w : World) (H : Rd w rb p) (hp : p ≤ 100000) (hn : n ≤ 100) (hn0 : 0 ≤ n) :
    Calls Try.prog 51 #[.pointer (some ⟨rb, 0, none⟩), .int .i64 n] w (Drawn rb p 110 1000 w) := by
  go_enter Try.func51, Try.ntmps51
  go_wp2_with (go_at_call 47; refine (pick rb p _ _ H (by omega) (by omega) (by omega)).mono ?_; rintro e w2 ⟨r, rfl, h0, h1, hR2, hK⟩)
  go_loopw [5, 6] (fun o i wr => ∃ (k q : Nat) (out : ByteArray), k ≤ 6 ∧ q + 14 * k ≤ p + 100 ∧ out.size + 20 * k ≤ 500 ∧ o = .string out ∧ i = .int .i64 k ∧ Rd wr rb q ∧ Kept [rb] w wr) (fun _ i _ => (intOf i).toNat)
  case atStart => exact ⟨r.toNat, p + 1, _, by omega, by omega, by show 0 + _ ≤ _; omega, rfl, by go_num, hR2, hK⟩
  case round =>
    obtain ⟨k, q, out, hk, hq, ho, rfl, rfl, hR, hB⟩ := hrel
    clear hR2 hK
    by_cases hlt : 0 < k
    · go_wp2
      refine wp_region_types (P := Try.prog) (by kernel_rfl) (by kernel_rfl) (Kept [rb]) [pVal (.string out), pLits [rb] 20 6, pVal (.pointer (some ⟨rb, 0, none⟩)), pInt 20, pPtr [rb] 6, pStr 6, pStr (out.size + 6), pLits [rb] 2 1, pVal (.pointer (some ⟨rb, 0, none⟩)), pInt 2, pPtr [rb] 1, pStr 1, pStr ((out.size + 6) + 1), pStr ((out.size + 6) + 1)] (stab_all ⟨stVal _, stLits _ _, stVal _, stInt _, stPtr _, stStr _, stStr _, stLits _ _, stVal _, stInt _, stPtr _, stStr _, stStr _, stStr _, trivial⟩) (jRd rb q wr) ?start (steps_all ⟨?s0, ?s1, ?s2, ?s3, ?s4, ?s5, ?s6, ?s7, ?s8, ?s9, ?s10, ?s11, ?s12, ?s13, trivial⟩) ?done
      case start => exact jRd.start hR
      case s0 =>
        intro xs w' m hl hm hJ hlast hf ho K hK
        replace hm : m < 14 := hm
        obtain ⟨x0, x1, x2, x3, x4, x5, x6, x7, x8, x9, x10, x11, x12, x13, rfl⟩ := len14 hl
        obtain rfl : x13 = .string out := by have := ho 13 _ rfl (.inr ⟨⟨0, .phase⟩, by simp, rfl, rfl⟩); simpa [origs] using this
        clear hlast
        clear hf ho
        simp only [fill, Act.put, List.map_cons, List.map_nil, List.setIfInBounds_toArray, List.set_cons_succ, List.set_cons_zero] at hK ⊢
        go_wp2
        exact hK _ _ (At.mk rfl rfl) (Kept.refl _ _) hJ.same
      case s1 =>
        intro xs w' m hl hm hJ hlast hf ho K hK
        replace hm : m < 14 := hm
        obtain ⟨x0, x1, x2, x3, x4, x5, x6, x7, x8, x9, x10, x11, x12, x13, rfl⟩ := len14 hl
        clear hlast
        clear hf ho
        simp only [fill, Act.put, List.map_cons, List.map_nil, List.setIfInBounds_toArray, List.set_cons_succ, List.set_cons_zero] at hK ⊢
        go_wp2
        exact hK _ _ (At.mk rfl (pLits_new [⟨#[97]⟩, ⟨#[98]⟩, ⟨#[102, 40]⟩, ⟨#[120]⟩, ⟨#[41]⟩, ⟨#[32]⟩, ⟨#[44]⟩, ⟨#[43]⟩, ⟨#[49]⟩, ⟨#[49, 50]⟩, ⟨#[34, 115, 34]⟩, ⟨#[103, 40, 49, 44, 50, 41]⟩, ⟨#[102, 40, 97, 41]⟩, ⟨#[40]⟩, ⟨#[65, 66]⟩, ⟨#[32, 45, 32]⟩, ⟨#[61, 61]⟩, ⟨#[104, 40, 98, 32, 99, 41]⟩, ⟨#[101, 40, 41]⟩, ⟨#[38, 38]⟩] 6 [rb] w' (by decide) hJ.lts 20 rfl)) (Kept.of_below ((Below.refl _ _).alloc (Nat.le_refl _) _)) (hJ.alloc _)
      case s2 =>
        intro xs w' m hl hm hJ hlast hf ho K hK
        replace hm : m < 14 := hm
        obtain ⟨x0, x1, x2, x3, x4, x5, x6, x7, x8, x9, x10, x11, x12, x13, rfl⟩ := len14 hl
        clear hlast
        clear hf ho
        simp only [fill, Act.put, List.map_cons, List.map_nil, List.setIfInBounds_toArray, List.set_cons_succ, List.set_cons_zero] at hK ⊢
        go_wp2
        exact hK _ _ (At.mk rfl rfl) (Kept.refl _ _) hJ.same
      case s3 =>
        intro xs w' m hl hm hJ hlast hf ho K hK
        replace hm : m < 14 := hm
        obtain ⟨x0, x1, x2, x3, x4, x5, x6, x7, x8, x9, x10, x11, x12, x13, rfl⟩ := len14 hl
        have f2 : pVal (.pointer (some ⟨rb, 0, none⟩)) x2 w' := hf ⟨2, .data⟩ (by simp) rfl _ rfl _ rfl
        clear hlast
        clear hf ho
        obtain rfl := f2
        obtain ⟨⟨p1, hp1, hR1⟩, hK1⟩ := hJ
        simp only [fill, Act.put, List.map_cons, List.map_nil, List.setIfInBounds_toArray, List.set_cons_succ, List.set_cons_zero] at hK ⊢
        go_wp2_with (go_at_call 47; refine (pick rb p1 _ _ hR1 (by omega) (by omega) (by omega)).mono ?_; rintro e w2 ⟨rr, rfl, hr0, hr1, hRq, hkq⟩)
        exact hK _ _ (At.mk rfl ⟨rr, rfl, hr0, by omega⟩) hkq ⟨⟨p1 + 1, by omega, hRq⟩, hK1.trans hkq⟩
      case s4 =>
        intro xs w' m hl hm hJ hlast hf ho K hK
        replace hm : m < 14 := hm
        obtain ⟨x0, x1, x2, x3, x4, x5, x6, x7, x8, x9, x10, x11, x12, x13, rfl⟩ := len14 hl
        have f1 : pLits [rb] 20 6 x1 w' := hf ⟨1, .data⟩ (by simp) rfl _ rfl _ rfl
        have f3 : pInt 20 x3 w' := hf ⟨3, .data⟩ (by simp) rfl _ rfl _ rfl
        clear hlast
        clear hf ho
        obtain ⟨ba, rfl, hnea, hba, hca⟩ := f1
        obtain ⟨ri, rfl, hii, hji⟩ := f3
        obtain ⟨s, hc1, hs1⟩ := hca ri.toNat (by omega)
        simp only [fill, Act.put, List.map_cons, List.map_nil, List.setIfInBounds_toArray, List.set_cons_succ, List.set_cons_zero] at hK ⊢
        go_wp2
        exact hK _ _ (At.mk rfl ⟨ba, _, s, rfl, hnea, hba, hc1, hs1⟩) (Kept.refl _ _) hJ.same
      case s5 =>
        intro xs w' m hl hm hJ hlast hf ho K hK
        replace hm : m < 14 := hm
        obtain ⟨x0, x1, x2, x3, x4, x5, x6, x7, x8, x9, x10, x11, x12, x13, rfl⟩ := len14 hl
        have f4 : pPtr [rb] 6 x4 w' := hf ⟨4, .data⟩ (by simp) rfl _ rfl _ rfl
        clear hlast
        clear hf ho
        obtain ⟨ba, ja, sa, rfl, hnea, hba, hca, hsa⟩ := f4
        simp only [fill, Act.put, List.map_cons, List.map_nil, List.setIfInBounds_toArray, List.set_cons_succ, List.set_cons_zero] at hK ⊢
        go_wp2
        exact hK _ _ (At.mk rfl ⟨_, rfl, hsa⟩) (Kept.refl _ _) hJ.same
      case s6 =>
        intro xs w' m hl hm hJ hlast hf ho K hK
        replace hm : m < 14 := hm
        obtain ⟨x0, x1, x2, x3, x4, x5, x6, x7, x8, x9, x10, x11, x12, x13, rfl⟩ := len14 hl
        have f0 : pVal (.string out) x0 w' := hf ⟨0, .data⟩ (by simp) rfl _ rfl _ rfl
        have f5 : pStr 6 x5 w' := hf ⟨5, .data⟩ (by simp) rfl _ rfl _ rfl
        clear hlast
        clear hf ho
        obtain rfl := f0
        obtain ⟨sb, rfl, hsb⟩ := f5
        have hadd := fun W => run_string_add_sum (P := Try.prog) W out sb (by omega)
        simp only [fill, Act.put, List.map_cons, List.map_nil, List.setIfInBounds_toArray, List.set_cons_succ, List.set_cons_zero] at hK ⊢
        go_wp2
        exact hK _ _ (At.mk rfl ⟨_, rfl, by rw [ByteArray.size_append]; omega⟩) (Kept.refl _ _) hJ.same
      case s7 =>
        intro xs w' m hl hm hJ hlast hf ho K hK
        replace hm : m < 14 := hm
        obtain ⟨x0, x1, x2, x3, x4, x5, x6, x7, x8, x9, x10, x11, x12, x13, rfl⟩ := len14 hl
        clear hlast
        clear hf ho
        simp only [fill, Act.put, List.map_cons, List.map_nil, List.setIfInBounds_toArray, List.set_cons_succ, List.set_cons_zero] at hK ⊢
        go_wp2
        exact hK _ _ (At.mk rfl (pLits_new [⟨#[]⟩, ⟨#[32]⟩] 1 [rb] w' (by decide) hJ.lts 2 rfl)) (Kept.of_below ((Below.refl _ _).alloc (Nat.le_refl _) _)) (hJ.alloc _)
      case s8 =>
        intro xs w' m hl hm hJ hlast hf ho K hK
        replace hm : m < 14 := hm
        obtain ⟨x0, x1, x2, x3, x4, x5, x6, x7, x8, x9, x10, x11, x12, x13, rfl⟩ := len14 hl
        clear hlast
        clear hf ho
        simp only [fill, Act.put, List.map_cons, List.map_nil, List.setIfInBounds_toArray, List.set_cons_succ, List.set_cons_zero] at hK ⊢
        go_wp2
        exact hK _ _ (At.mk rfl rfl) (Kept.refl _ _) hJ.same
      case s9 =>
        intro xs w' m hl hm hJ hlast hf ho K hK
        replace hm : m < 14 := hm
        obtain ⟨x0, x1, x2, x3, x4, x5, x6, x7, x8, x9, x10, x11, x12, x13, rfl⟩ := len14 hl
        have f8 : pVal (.pointer (some ⟨rb, 0, none⟩)) x8 w' := hf ⟨8, .data⟩ (by simp) rfl _ rfl _ rfl
        clear hlast
        clear hf ho
        obtain rfl := f8
        obtain ⟨⟨p1, hp1, hR1⟩, hK1⟩ := hJ
        simp only [fill, Act.put, List.map_cons, List.map_nil, List.setIfInBounds_toArray, List.set_cons_succ, List.set_cons_zero] at hK ⊢
        go_wp2_with (go_at_call 47; refine (pick rb p1 _ _ hR1 (by omega) (by omega) (by omega)).mono ?_; rintro e w2 ⟨rr, rfl, hr0, hr1, hRq, hkq⟩)
        exact hK _ _ (At.mk rfl ⟨rr, rfl, hr0, by omega⟩) hkq ⟨⟨p1 + 1, by omega, hRq⟩, hK1.trans hkq⟩
      case s10 =>
        intro xs w' m hl hm hJ hlast hf ho K hK
        replace hm : m < 14 := hm
        obtain ⟨x0, x1, x2, x3, x4, x5, x6, x7, x8, x9, x10, x11, x12, x13, rfl⟩ := len14 hl
        have f7 : pLits [rb] 2 1 x7 w' := hf ⟨7, .data⟩ (by simp) rfl _ rfl _ rfl
        have f9 : pInt 2 x9 w' := hf ⟨9, .data⟩ (by simp) rfl _ rfl _ rfl
        clear hlast
        clear hf ho
        obtain ⟨ba, rfl, hnea, hba, hca⟩ := f7
        obtain ⟨ri, rfl, hii, hji⟩ := f9
        obtain ⟨s, hc1, hs1⟩ := hca ri.toNat (by omega)
        simp only [fill, Act.put, List.map_cons, List.map_nil, List.setIfInBounds_toArray, List.set_cons_succ, List.set_cons_zero] at hK ⊢
        go_wp2
        exact hK _ _ (At.mk rfl ⟨ba, _, s, rfl, hnea, hba, hc1, hs1⟩) (Kept.refl _ _) hJ.same
      case s11 =>
        intro xs w' m hl hm hJ hlast hf ho K hK
        replace hm : m < 14 := hm
        obtain ⟨x0, x1, x2, x3, x4, x5, x6, x7, x8, x9, x10, x11, x12, x13, rfl⟩ := len14 hl
        have f10 : pPtr [rb] 1 x10 w' := hf ⟨10, .data⟩ (by simp) rfl _ rfl _ rfl
        clear hlast
        clear hf ho
        obtain ⟨ba, ja, sa, rfl, hnea, hba, hca, hsa⟩ := f10
        simp only [fill, Act.put, List.map_cons, List.map_nil, List.setIfInBounds_toArray, List.set_cons_succ, List.set_cons_zero] at hK ⊢
        go_wp2
        exact hK _ _ (At.mk rfl ⟨_, rfl, hsa⟩) (Kept.refl _ _) hJ.same
      case s12 =>
        intro xs w' m hl hm hJ hlast hf ho K hK
        replace hm : m < 14 := hm
        obtain ⟨x0, x1, x2, x3, x4, x5, x6, x7, x8, x9, x10, x11, x12, x13, rfl⟩ := len14 hl
        have f6 : pStr (out.size + 6) x6 w' := hf ⟨6, .data⟩ (by simp) rfl _ rfl _ rfl
        have f11 : pStr 1 x11 w' := hf ⟨11, .data⟩ (by simp) rfl _ rfl _ rfl
        clear hlast
        clear hf ho
        obtain ⟨sa, rfl, hsa⟩ := f6
        obtain ⟨sb, rfl, hsb⟩ := f11
        have hadd := fun W => run_string_add_sum (P := Try.prog) W sa sb (by omega)
        simp only [fill, Act.put, List.map_cons, List.map_nil, List.setIfInBounds_toArray, List.set_cons_succ, List.set_cons_zero] at hK ⊢
        go_wp2
        exact hK _ _ (At.mk rfl ⟨_, rfl, by rw [ByteArray.size_append]; omega⟩) (Kept.refl _ _) hJ.same
      case s13 =>
        intro xs w' m hl hm hJ hlast hf ho K hK
        replace hm : m < 14 := hm
        obtain ⟨x0, x1, x2, x3, x4, x5, x6, x7, x8, x9, x10, x11, x12, x13, rfl⟩ := len14 hl
        have f12 : pStr ((out.size + 6) + 1) x12 w' := hf ⟨12, .data⟩ (by simp) rfl _ rfl _ rfl
        clear hlast
        clear hf ho
        obtain ⟨sa, rfl, hsa⟩ := f12
        simp only [fill, Act.put, List.map_cons, List.map_nil, List.setIfInBounds_toArray, List.set_cons_succ, List.set_cons_zero] at hK ⊢
        go_wp2
        exact hK _ _ (At.mk rfl ⟨_, rfl, hsa⟩) (Kept.refl _ _) hJ.same
      case done =>
        intro xs w' hl hf hJ
        obtain ⟨x0, x1, x2, x3, x4, x5, x6, x7, x8, x9, x10, x11, x12, x13, rfl⟩ := len14 hl
        have f13 : pStr ((out.size + 6) + 1) x13 w' := hf 13 _ rfl _ rfl
        obtain ⟨sz, rfl, hsz⟩ := f13
        clear hf
        obtain ⟨⟨p1, hp1, hR1⟩, hK1⟩ := hJ
        replace hp1 : p1 ≤ q + 14 := hp1
        simp only [fill, Act.put, List.map_cons, List.map_nil, List.setIfInBounds_toArray, List.set_cons_succ, List.set_cons_zero]
        go_wp2
        go_roundw
        case rel => exact ⟨k - 1, p1, sz, by omega, by omega, by omega, rfl, by go_num, hR1, hB.trans hK1⟩
        case measure => simp [intOf]; omega
    · go_wp2_with fail
      refine (odd rb q _ _ hR (by omega) (by omega) (by omega)).mono ?_
      rintro e w3 ⟨b, q2, rfl, hq1, hq2, hR3, hK3⟩
      cases b
      · go_wp2
        go_ret
        exact ⟨out, q2, rfl, by omega, by omega, hR3, hB.trans hK3⟩
      · go_wp2_with (go_at_call 47; refine (pick rb q2 _ _ (hR3.grow ((Below.refl _ _).alloc (Nat.le_refl _) _)) (by omega) (by omega) (by omega)).mono ?_; rintro e w4 ⟨r2, rfl, h20, h21, hR4, hK4⟩; obtain ⟨s, hs, hc⟩ := lit_pick line_lits 13 line_lits_size h20 (by show r2 < 6; omega) hR3.lt hK4; have hadd := fun W => run_string_add_sum (P := Try.prog) W out s (by omega))
        go_ret
        exact ⟨out ++ s, q2 + 1, rfl, by rw [ByteArray.size_append]; omega, by omega, hR4, (hB.trans hK3).trans ((Kept.of_below ((Below.refl _ _).alloc (Nat.le_refl _) _)).trans hK4)⟩

end Go.Proofs.Ytipfpppcbmpjiaa

/- The drawing of tokens. -/
namespace Go.Proofs.Ytipfpppcbmpjiaa
open Go.RowKit

/-- A drawn token: small. -/
def okTok (t : Tok) : Prop := t.text.size ≤ 1000 ∧ 0 ≤ t.kind ∧ t.kind ≤ 4 ∧ t.hidden.length ≤ 3
def elemTok (t : Tok) : Elem Tok := ⟨freshCells t, t, []⟩
theorem toks_rowE {base : Nat} {v : Value} {l : List Tok} {w : World} {B : Nat} (h : TokRow base v l w) (hf : Fresh B l) (hB : B ≤ 1000) :
    RowE sTok base 33 v (l.map elemTok) w ∧ ∀ x ∈ l.map elemTok, okTok x.d := by
  have hL : (l.map elemTok).flatMap (·.cells) = l.flatMap freshCells := by rw [List.flatMap_map]; rfl
  have hx : ∀ x ∈ l.map elemTok, ∃ t ∈ l, x = elemTok t := fun x hx => by
    obtain ⟨t, ht, rfl⟩ := List.mem_map.1 hx
    exact ⟨t, ht, rfl⟩
  refine ⟨⟨by rw [hL, List.length_map]; exact h, fun x hm => ?_, fun x hm => ?_, fun x hm b hb => ?_, fun x hm b hb => ?_⟩, fun x hm => ?_⟩ <;> obtain ⟨t, ht, rfl⟩ := hx x hm
  · rfl
  · obtain ⟨a1, a2, a3, a4⟩ := hf t ht
    have b1 : okInt t.kind := ⟨by omega, by omega⟩
    have b2 : okStr t.text := by unfold okStr maxLen; omega
    have b3 : (sSlice sStr).R w [.slice none 0 0] t.hidden [] := by rw [a2]; exact slice_empty sStr w none 0 (by simp)
    exact ⟨_, rfl, b1, b2, b3⟩
  · simp [elemTok] at hb
  · simp [elemTok] at hb
  · obtain ⟨a1, a2, a3, a4⟩ := hf t ht
    exact ⟨Nat.le_trans a1 hB, by show 0 ≤ t.kind; omega, a4, by show t.hidden.length ≤ 3; rw [a2]; simp⟩

/-- The lists of names out of which a token's hidden ones are drawn. -/
abbrev hidW (w : World) : World :=
  (((((w.alloc (.cells #[.string ⟨#[97]⟩] 9)).alloc (.cells #[.string ⟨#[97]⟩, .string ⟨#[98]⟩] 9)).alloc (.cells #[.string ⟨#[102]⟩] 9)).alloc (.cells #[.string ⟨#[97]⟩, .string ⟨#[102]⟩, .string ⟨#[103]⟩] 9)).alloc
    (.cells #[.slice (some ⟨w.heap.size, 0, none⟩) 1 1, .slice (some ⟨w.heap.size + 1, 0, none⟩) 2 2, .slice (some ⟨w.heap.size + 1 + 1, 0, none⟩) 1 1, .slice (some ⟨w.heap.size + 1 + 1 + 1, 0, none⟩) 3 3] 31))
def hidL (n : Nat) : List Obj := [.cells #[.string ⟨#[97]⟩] 9, .cells #[.string ⟨#[97]⟩, .string ⟨#[98]⟩] 9, .cells #[.string ⟨#[102]⟩] 9, .cells #[.string ⟨#[97]⟩, .string ⟨#[102]⟩, .string ⟨#[103]⟩] 9,
  .cells #[.slice (some ⟨n, 0, none⟩) 1 1, .slice (some ⟨n + 1, 0, none⟩) 2 2, .slice (some ⟨n + 1 + 1, 0, none⟩) 1 1, .slice (some ⟨n + 1 + 1 + 1, 0, none⟩) 3 3] 31]
theorem hidW_eq (w : World) : hidW w = allocs w (hidL w.heap.size) := rfl
theorem hidW_below (w : World) : Below w.heap.size w (hidW w) := by rw [hidW_eq]; exact allocs_below _ _ (Below.refl _ _) (Nat.le_refl _)
theorem hidW_blk (w : World) (j : Nat) (hj : j < 5) : (hidW w).heap[w.heap.size + j]? = some ((hidL w.heap.size)[j]'hj) := by rw [hidW_eq]; exact allocs_blk w (hidL w.heap.size) j hj
theorem hidW_size (w : World) : (hidW w).heap.size = w.heap.size + 5 := by rw [hidW_eq, allocs_size]; rfl
/-- A literal row of texts. -/
theorem lit_strs {w : World} {b : Nat} {l : List ByteArray} {t : TypeId} {fr : Nat × Nat} (h : w.heap[b]? = some (.cells (l.map Value.string).toArray t fr)) (hs : ∀ s ∈ l, s.size ≤ 1000) (h0 : 0 < l.length) (hl : l.length ≤ 1000) (n : Nat) (hn : l.length = n) :
    (sSlice sStr).R w [.slice (some ⟨b, 0, none⟩) n n] l [b] := by
  subst hn
  refine ⟨_, _, rfl, Nat.le_refl _, by unfold maxLen; omega, .inr ⟨h0, b, 0, fun _ => [], rfl, by simp, (Array.getElem?_eq_some_iff.1 h).1, fun i hi => ⟨[.string l[i]], ⟨rfl, fun j hj => ?_⟩, rfl, ?_, rfl⟩⟩⟩
  · have hj0 : j = 0 := by simp [sStr, sFlat] at hj; omega
    subst hj0
    have := cell_of_row w b i _ _ _ h
    simp only [sStr, sFlat, Nat.mul_one, Nat.zero_add, Nat.add_zero] at *
    rw [this]; simp [List.getElem?_eq_getElem hi]
  · have := hs _ (List.getElem_mem hi)
    unfold okStr maxLen; omega
theorem hid_lits {w w3 : World} {rb : Nat} {r : Int} (hr : rb < w.heap.size) (hK : Kept [rb] (hidW w) w3) (h0 : 0 ≤ r) (h1 : r < 4) :
    ∃ b n l, w3.cell? ⟨w.heap.size + 1 + 1 + 1 + 1, r.toNat, none⟩ = some (.slice (some ⟨b, 0, none⟩) n n) ∧ (sSlice sStr).R w3 [.slice (some ⟨b, 0, none⟩) n n] l [b] ∧ l.length ≤ 3 ∧ w.heap.size ≤ b ∧ ∃ cur fr, w3.heap[b]? = some (.cells cur 9 fr) := by
  have gs := hidW_size w
  have g0 := hidW_blk w 0 (by omega)
  have g1 := hidW_blk w 1 (by omega)
  have g2 := hidW_blk w 2 (by omega)
  have g3 := hidW_blk w 3 (by omega)
  have g4 := hidW_blk w 4 (by omega)
  have k0 := (hK.block _ (by omega) (by simp; omega)).trans g0
  have k1 := (hK.block _ (by omega) (by simp; omega)).trans g1
  have k2 := (hK.block _ (by omega) (by simp; omega)).trans g2
  have k3 := (hK.block _ (by omega) (by simp; omega)).trans g3
  have k4 := (hK.block _ (by omega) (by simp; omega)).trans g4
  have hc := fun j => cell_of_row w3 (w.heap.size + 1 + 1 + 1 + 1) j _ _ _ k4
  have hr4 : r = 0 ∨ r = 1 ∨ r = 2 ∨ r = 3 := by omega
  rcases hr4 with rfl | rfl | rfl | rfl
  · exact ⟨_, 1, [⟨#[97]⟩], hc 0, lit_strs (l := [⟨#[97]⟩]) k0 (by decide) (by decide) (by decide) 1 rfl, by decide, by omega, _, _, k0⟩
  · exact ⟨_, 2, [⟨#[97]⟩, ⟨#[98]⟩], hc 1, lit_strs (l := [⟨#[97]⟩, ⟨#[98]⟩]) k1 (by decide) (by decide) (by decide) 2 rfl, by decide, by omega, _, _, k1⟩
  · exact ⟨_, 1, [⟨#[102]⟩], hc 2, lit_strs (l := [⟨#[102]⟩]) k2 (by decide) (by decide) (by decide) 1 rfl, by decide, by omega, _, _, k2⟩
  · exact ⟨_, 3, [⟨#[97]⟩, ⟨#[102]⟩, ⟨#[103]⟩], hc 3, lit_strs (l := [⟨#[97]⟩, ⟨#[102]⟩, ⟨#[103]⟩]) k3 (by decide) (by decide) (by decide) 3 rfl, by decide, by omega, _, _, k3⟩

def tokE (k : Int) (s : ByteArray) (ao : Option Addr) (m : Nat) (l : List ByteArray) (fp : List Nat) : Elem Tok := ⟨[.int .i64 k, .string s, .bool false, .slice ao m m], ⟨k, s, false, l⟩, fp⟩
/-- The tokens that are not valid, out of which one is drawn. -/
def badE (n : Nat) : List (Elem Tok) := [tokE 0 ⟨#[]⟩ none 0 [] [], tokE 1 ⟨#[49, 97]⟩ none 0 [] [], tokE 1 ⟨#[97, 32, 98]⟩ none 0 [] [], tokE 2 ⟨#[97]⟩ none 0 [] [], tokE 4 ⟨#[64]⟩ none 0 [] [], tokE 3 ⟨#[34, 97]⟩ none 0 [] [],
  tokE 1 ⟨#[97]⟩ (some ⟨n, 0, none⟩) 2 [⟨#[98]⟩, ⟨#[97]⟩] [n], tokE 1 ⟨#[97]⟩ (some ⟨n + 1, 0, none⟩) 1 [⟨#[49]⟩] [n + 1]]
def badL (n : Nat) : List Obj := [.cells #[.string ⟨#[98]⟩, .string ⟨#[97]⟩] 9, .cells #[.string ⟨#[49]⟩] 9, .cells ((badE n).flatMap (·.cells)).toArray 33]
abbrev badW (w : World) : World :=
  ((w.alloc (.cells #[.string ⟨#[98]⟩, .string ⟨#[97]⟩] 9)).alloc (.cells #[.string ⟨#[49]⟩] 9)).alloc
    (.cells #[.int .i64 0, .string ⟨#[]⟩, .bool false, .slice none 0 0, .int .i64 1, .string ⟨#[49, 97]⟩, .bool false, .slice none 0 0, .int .i64 1, .string ⟨#[97, 32, 98]⟩, .bool false, .slice none 0 0, .int .i64 2, .string ⟨#[97]⟩, .bool false, .slice none 0 0,
      .int .i64 4, .string ⟨#[64]⟩, .bool false, .slice none 0 0, .int .i64 3, .string ⟨#[34, 97]⟩, .bool false, .slice none 0 0, .int .i64 1, .string ⟨#[97]⟩, .bool false, .slice (some ⟨w.heap.size, 0, none⟩) 2 2, .int .i64 1, .string ⟨#[97]⟩, .bool false, .slice (some ⟨w.heap.size + 1, 0, none⟩) 1 1] 33)
theorem badW_eq (w : World) : badW w = allocs w (badL w.heap.size) := rfl
theorem badW_below (w : World) : Below w.heap.size w (badW w) := by rw [badW_eq]; exact allocs_below _ _ (Below.refl _ _) (Nat.le_refl _)
theorem badW_blk (w : World) (j : Nat) (hj : j < 3) : (badW w).heap[w.heap.size + j]? = some ((badL w.heap.size)[j]'hj) := by rw [badW_eq]; exact allocs_blk w (badL w.heap.size) j hj
theorem badW_size (w : World) : (badW w).heap.size = w.heap.size + 3 := by rw [badW_eq, allocs_size]; rfl
theorem badE_len (n : Nat) : ∀ x ∈ badE n, x.cells.length = 4 := by
  intro x hx
  simp only [badE, List.mem_cons, List.not_mem_nil, or_false] at hx
  rcases hx with rfl | rfl | rfl | rfl | rfl | rfl | rfl | rfl <;> rfl
theorem badE_form (n : Nat) : ∀ x ∈ badE n, okTok x.d ∧ ∃ k s ao m l fp, x = tokE k s ao m l fp ∧ (fp = [] ∧ l = [] ∧ ao = none ∧ m = 0 ∨ fp = [n] ∧ l = [⟨#[98]⟩, ⟨#[97]⟩] ∧ ao = some ⟨n, 0, none⟩ ∧ m = 2 ∨ fp = [n + 1] ∧ l = [⟨#[49]⟩] ∧ ao = some ⟨n + 1, 0, none⟩ ∧ m = 1) := by
  intro x hx
  simp only [badE, List.mem_cons, List.not_mem_nil, or_false] at hx
  have ok : ∀ (k : Int) (s : ByteArray) (l : List ByteArray), s.size ≤ 1000 → 0 ≤ k → k ≤ 4 → l.length ≤ 3 → okTok ⟨k, s, false, l⟩ := fun k s l a b c d => ⟨a, b, c, d⟩
  rcases hx with rfl | rfl | rfl | rfl | rfl | rfl | rfl | rfl
  · exact ⟨ok _ _ _ (by decide) (by decide) (by decide) (by decide), _, _, _, _, _, _, rfl, .inl ⟨rfl, rfl, rfl, rfl⟩⟩
  · exact ⟨ok _ _ _ (by decide) (by decide) (by decide) (by decide), _, _, _, _, _, _, rfl, .inl ⟨rfl, rfl, rfl, rfl⟩⟩
  · exact ⟨ok _ _ _ (by decide) (by decide) (by decide) (by decide), _, _, _, _, _, _, rfl, .inl ⟨rfl, rfl, rfl, rfl⟩⟩
  · exact ⟨ok _ _ _ (by decide) (by decide) (by decide) (by decide), _, _, _, _, _, _, rfl, .inl ⟨rfl, rfl, rfl, rfl⟩⟩
  · exact ⟨ok _ _ _ (by decide) (by decide) (by decide) (by decide), _, _, _, _, _, _, rfl, .inl ⟨rfl, rfl, rfl, rfl⟩⟩
  · exact ⟨ok _ _ _ (by decide) (by decide) (by decide) (by decide), _, _, _, _, _, _, rfl, .inl ⟨rfl, rfl, rfl, rfl⟩⟩
  · exact ⟨ok _ _ _ (by decide) (by decide) (by decide) (by decide), _, _, _, _, _, _, rfl, .inr (.inl ⟨rfl, rfl, rfl, rfl⟩)⟩
  · exact ⟨ok _ _ _ (by decide) (by decide) (by decide) (by decide), _, _, _, _, _, _, rfl, .inr (.inr ⟨rfl, rfl, rfl, rfl⟩)⟩
/-- One of them, picked. -/
def PickedTok (B g : Nat) (i : Nat) (w : World) : Prop :=
  ∃ (k : Int) (s : ByteArray) (ao : Option Addr) (m : Nat) (l : List ByteArray) (fp : List Nat),
    w.cell? ⟨g, i * 4, none⟩ = some (.int .i64 k) ∧ w.cell? ⟨g, i * 4 + 1, none⟩ = some (.string s) ∧ w.cell? ⟨g, i * 4 + 2, none⟩ = some (.bool false) ∧ w.cell? ⟨g, i * 4 + 3, none⟩ = some (.slice ao m m) ∧
    sTok.R w [.int .i64 k, .string s, .bool false, .slice ao m m] ⟨k, s, false, l⟩ fp ∧ okTok ⟨k, s, false, l⟩ ∧ (∀ b ∈ fp, B ≤ b) ∧ (∀ b ∈ fp, ∃ cur t fr, w.heap[b]? = some (.cells cur t fr) ∧ t ≠ 33)
theorem bad_pick {w w4 : World} {rb : Nat} {r : Int} (hr : rb < w.heap.size) (hK : Kept [rb] (badW w) w4) (h0 : 0 ≤ r) (h1 : r < 8) : PickedTok w.heap.size (w.heap.size + 1 + 1) r.toNat w4 := by
  have gs := badW_size w
  have k0 := (hK.block _ (by omega) (by simp; omega)).trans (badW_blk w 0 (by omega))
  have k1 := (hK.block _ (by omega) (by simp; omega)).trans (badW_blk w 1 (by omega))
  have k2 := (hK.block _ (by omega) (by simp; omega)).trans (badW_blk w 2 (by omega))
  have hr8 : r.toNat < (badE w.heap.size).length := by show _ < 8; omega
  have hmem := List.getElem_mem hr8
  obtain ⟨hok, k, s, ao, m, l, fp, hx, hways⟩ := badE_form _ _ hmem
  have hc : ∀ j, j < 4 → w4.cell? ⟨w.heap.size + 1 + 1, r.toNat * 4 + j, none⟩ = (tokE k s ao m l fp).cells[j]? := fun j hj => by
    rw [cell_of_row w4 (w.heap.size + 1 + 1) (r.toNat * 4 + j) _ _ _ k2, List.getElem?_toArray, flatMap_at (f := Elem.cells) (badE_len _) hr8 hj, hx]
  rw [hx] at hok
  obtain ⟨o1, o2, o3, o4⟩ := hok
  have b1 : okInt k := ⟨by have : 0 ≤ k := o2; omega, by have : k ≤ 4 := o3; omega⟩
  have b2 : okStr s := by unfold okStr maxLen; have : s.size ≤ 1000 := o1; omega
  refine ⟨k, s, ao, m, l, fp, hc 0 (by omega), hc 1 (by omega), hc 2 (by omega), hc 3 (by omega), ?_, ⟨o1, o2, o3, o4⟩, ?_, ?_⟩
  · rcases hways with ⟨rfl, rfl, rfl, rfl⟩ | ⟨rfl, rfl, rfl, rfl⟩ | ⟨rfl, rfl, rfl, rfl⟩
    · exact ⟨_, rfl, b1, b2, slice_empty sStr _ _ _ (by simp)⟩
    · exact ⟨_, rfl, b1, b2, lit_strs (l := [⟨#[98]⟩, ⟨#[97]⟩]) k0 (by decide) (by decide) (by decide) 2 rfl⟩
    · exact ⟨_, rfl, b1, b2, lit_strs (l := [⟨#[49]⟩]) k1 (by decide) (by decide) (by decide) 1 rfl⟩
  · intro b hb
    rcases hways with ⟨rfl, _⟩ | ⟨rfl, _⟩ | ⟨rfl, _⟩ <;> simp at hb <;> omega
  · intro b hb
    rcases hways with ⟨rfl, _⟩ | ⟨rfl, _⟩ | ⟨rfl, _⟩ <;> simp at hb <;> subst hb
    · exact ⟨_, _, _, k0, by decide⟩
    · exact ⟨_, _, _, k1, by decide⟩

/-- append of one token out of its literal's own block. -/
theorem wp_append_tokE {w : World} {ops : Array Oper} {rest : List Oper} {o : Oper} {a : Act} {Q : Exit → Act → World → Prop} (hg : o.guard = none) (s y : Operand)
    (ho : o.op = .call { callee := .builtin .append, args := #[s, y], argTypes := #[24, 24] })
    (base : Nat) (v : Value) (L : List (Elem Tok)) (hs : a.eval s = v) (hown : RowE sTok base 33 v L w) (k : Int) (x : ByteArray) (b : Bool) (ao : Option Addr) (m c : Nat) (l : List ByteArray) (fp : List Nat)
    (hy : a.eval y = .slice (some ⟨w.heap.size, 0, none⟩) 1 1) (hR : sTok.R w [.int .i64 k, .string x, .bool b, .slice ao m c] ⟨k, x, b, l⟩ fp) (hlo : ∀ b ∈ fp, base ≤ b) (hty : ∀ b ∈ fp, ∃ cur t fr, w.heap[b]? = some (.cells cur t fr) ∧ t ≠ 33)
    (h63 : L.length ≤ 2000000) (hbase : base ≤ w.heap.size)
    (h : ∀ v' w', RowE sTok base 33 v' (L ++ [⟨[.int .i64 k, .string x, .bool b, .slice ao m c], ⟨k, x, b, l⟩, fp⟩]) w' → w.grownBy w' v.ownBlock → wpList Try.prog ops Q rest (a.put o.dst v') w') :
    wpList Try.prog ops Q (o :: rest) a (w.alloc (.cells #[.int .i64 k, .string x, .bool b, .slice ao m c] 33)) := by
  have hb := alloc_below' w (.cells #[.int .i64 k, .string x, .bool b, .slice ao m c] 33)
  refine wp_append_rowE (S := sTok) ti_tok rfl (by decide) _ (X := [⟨[.int .i64 k, .string x, .bool b, .slice ao m c], ⟨k, x, b, l⟩, fp⟩]) hg s y ho base v hs (hown.below hb) w.heap.size 1 1 hy rfl ?_ ?_ ?_ ?_ ?_ ?_ (by unfold maxLen; omega) (by omega) (by simp; omega) fun v' w' a b => h v' w' a (grown_trans (World.grownBy_alloc _ _ _) b)
  · intro x hx; obtain rfl := List.mem_singleton.1 hx; rfl
  · intro x hx; obtain rfl := List.mem_singleton.1 hx; simp [Value.oneCell']
  · intro j u hj
    rw [World.cell?_alloc_at _ _ _ _ rfl]
    simpa using hj
  · intro x hx; obtain rfl := List.mem_singleton.1 hx; exact sTok.below hR hb
  · intro x hx; obtain rfl := List.mem_singleton.1 hx; exact hlo
  · intro x hx b' hb'
    obtain rfl := List.mem_singleton.1 hx
    obtain ⟨cur, t, fr, h1, h2⟩ := hty b' hb'
    exact ⟨cur, t, fr, (hb.block b' (Array.getElem?_eq_some_iff.1 h1).1).trans h1, h2⟩

theorem okApp {L : List (Elem Tok)} {x : Elem Tok} (h : ∀ x ∈ L, okTok x.d) (hx : okTok x.d) : ∀ y ∈ L ++ [x], okTok y.d := fun y hy => by
  rcases List.mem_append.1 hy with hy | hy
  · exact h y hy
  · obtain rfl := List.mem_singleton.1 hy; exact hx
theorem grownRd {rb p B : Nat} {w w' : World} {ob : Option Nat} (h : Rd w rb p) (hg : w.grownBy w' ob) (hr : rb < B) (ho : ∀ b, ob = some b → B ≤ b) : Rd w' rb p := by
  obtain ⟨⟨a, l, cap, fp, h2, h3, h4, h5⟩, h6⟩ := h
  have hlt := (Array.getElem?_eq_some_iff.1 h2).1
  have hblk : ∀ b, b ≤ rb → w'.heap[b]? = w.heap[b]? := fun b hb => hg.block b (by omega) (by intro he; have := ho b he.symm; omega)
  exact ⟨⟨a, l, cap, fp, (hblk rb (Nat.le_refl _)).trans h2, (sSlice sByte).frame (fun b hb => hblk b (Nat.le_of_lt (h4 b hb))) h3, h4, h5⟩, h6⟩
theorem grownKept {rb : Nat} {w0 w w' : World} {ob : Option Nat} (h : Kept [rb] w0 w) (hg : w.grownBy w' ob) (ho : ∀ b, ob = some b → w0.heap.size ≤ b) : Kept [rb] w0 w' :=
  ⟨hg.os.trans h.os, hg.tape.trans h.tape, hg.output.trans h.output, Nat.le_trans h.size hg.size, fun k hk hn => (hg.block k (Nat.lt_of_lt_of_le hk h.size) (by intro he; have := ho k he.symm; omega)).trans (h.block k hk hn)⟩
theorem rdSet {rb g p : Nat} {w : World} (h : Rd w rb p) (hr : rb < g) (o : Nat) (u : Value) : Rd (w.setCell ⟨g, o, none⟩ u) rb p :=
  h.kept ((Kept.refl [g] w).setCell (p := ⟨g, o, none⟩) (by simp) u) (fun b hb => by have e : b = g := (by simpa using hb); omega)
theorem keptSet {rb g : Nat} {w w' : World} (hk : Kept [rb] w w') (hg : w.heap.size ≤ g) (u : Value) (o : Nat) : Kept [rb] w (w'.setCell ⟨g, o, none⟩ u) :=
  ⟨hk.os, hk.tape, hk.output, by simp [World.setCell]; exact hk.size, fun k h1 h2 => (Below.heap_setCell _ _ _ _ (by show k ≠ g; omega)).trans (hk.block k h1 h2)⟩
/-- Tokens are drawn, by at most n picks. -/
def DrawnToks (rb p n : Nat) (least : Nat) (w : World) (e : Ending) (w' : World) : Prop :=
  ∃ (v : Value) (L : List (Elem Tok)) (q : Nat), e = .returned v ∧ RowE sTok w.heap.size 33 v L w' ∧ (∀ x ∈ L, okTok x.d) ∧ least ≤ L.length ∧ L.length ≤ 61 ∧ q ≤ p + n ∧ Rd w' rb q ∧ Kept [rb] w w'

/-- .. 'odd' of 1 is true. -/
def OddT (rb p : Nat) (n : Int) (w : World) (e : Ending) (w' : World) : Prop := ∃ b : Bool, ∃ q : Nat, e = .returned (.bool b) ∧ Hid (n = 1 → b = true) ∧ p ≤ q ∧ q ≤ p + 1 ∧ Rd w' rb q ∧ Kept [rb] w w'
set_option maxHeartbeats 1000000 in
theorem oddT (rb p : Nat) (n : Int) (w : World) (H : Rd w rb p) (hp : p < 1000000) (hn : n ≤ 1000000) (hn0 : 0 ≤ n) :
    Calls Try.prog 21 #[.pointer (some ⟨rb, 0, none⟩), .int .i64 n] w (OddT rb p n w) := by
  by_cases h0 : 0 < n
  · go_enter Try.func21, Try.ntmps21
    go_wp2_with (go_at_call 47; refine (pick _ _ _ _ H hp hn (by omega)).mono ?_; rintro e w' ⟨r, rfl, hr0, hr1, hr2, hr3⟩)
    go_ret
    exact ⟨_, p + 1, rfl, (fun h => by simp; omega), by omega, by omega, hr2, hr3⟩
  · have e0 : n = 0 := by omega
    subst e0
    go_enter Try.func21, Try.ntmps21
    go_wp2
    go_ret
    exact ⟨_, p, rfl, (fun h => absurd h (by decide)), by omega, by omega, H, Kept.refl _ _⟩

set_option maxHeartbeats 8000000 in
set_option maxRecDepth 100000 in
theorem l20Tokens (rb p : Nat) (n : Int) (w : World) (H : Rd w rb p) (hp : p ≤ 100000) (hn : n ≤ 100) (hn0 : 0 ≤ n) (least : Nat) (hl : least ≤ 1) (hl1 : 0 < least → n = 1) :
    Calls Try.prog 22 #[.pointer (some ⟨rb, 0, none⟩), .int .i64 n] w (DrawnToks rb p 300 least w) := by
  have hrb := H.lt
  go_enter Try.func22, Try.ntmps22
  go_wp2_with fail
  refine (l20Line rb p _ _ H hp (by omega) (by omega)).mono ?_
  rintro e w1 ⟨s, q1, rfl, hs, hq1, hR1, hK1⟩
  go_wp2_with fail
  refine (spec_TokensOf_row s _ (by unfold maxLen; omega)).mono ?_
  rintro e w2 ⟨v, rfl, hrow, hfr, hB2⟩
  have hcnt := (tokRes_all s).1
  obtain ⟨hE0, hok0⟩ := toks_rowE hrow hfr hs
  have hR2 := hR1.grow hB2
  have hK2 := hK1.trans (Kept.of_below (fp := [rb]) hB2)
  replace hE0 := hE0.lower hK1.size
  have HN : Hid (((tokRes s).1.map elemTok).length ≤ 60) := by show _ ≤ _; rw [List.length_map]; exact hcnt
  generalize (tokRes s).1.map elemTok = L0 at hE0 hok0 HN
  generalize (tokRes s).2 = b0 at *
  clear hrow hfr hcnt hB2 hR1 hK1
  obtain ⟨a, cap, rfl, hc, hm, hpos⟩ := hE0.val
  unfold maxLen at hm
  have hlen := HN.out
  go_wp2
  go_loopw [7] (fun i wr => ∃ (k q : Nat) (L : List (Elem Tok)), k ≤ L0.length ∧ i = .int .i64 k ∧ q ≤ q1 + 2 * k ∧ Hid (L.length = L0.length) ∧ RowE sTok w.heap.size 33 (.slice a L0.length cap) L wr ∧ (∀ x ∈ L, okTok x.d) ∧ Rd wr rb q ∧ Kept [rb] w wr) (fun i _ => L0.length - (intOf i).toNat)
  case atStart => exact ⟨0, q1, L0, by omega, rfl, by omega, rfl, hE0, hok0, hR2, hK2⟩
  case round =>
    obtain ⟨k, q, L, hk, rfl, hq, HL, hE, hok, hR, hK⟩ := hrel
    clear hE0 hok0 hR2 hK2
    by_cases hlt : k < L0.length
    · obtain ⟨g, rfl, hg1, hg2⟩ := hpos (by omega)
      go_wp2_with fail
      refine (pick rb q _ _ hR (by omega) (by omega) (by omega)).mono ?_
      rintro e w3 ⟨r, rfl, h0, h1, hR3, hK3⟩
      have hE3 := hE.keptR hK3 hrb
      have hK3' := hK.trans hK3
      by_cases hr : r = 0
      · have hr' : (r == 0) = true := by simp [hr]
        clear hr
        go_wp2_with fail
        refine (pick rb (q + 1) _ _ (hR3.grow (hidW_below w3)) (by omega) (by omega) (by omega)).mono ?_
        rintro e w4 ⟨r2, rfl, h20, h21, hR4, hK4⟩
        obtain ⟨hb, hn', l, hcl, hRl, hll, hlb, hty⟩ := hid_lits hR3.lt hK4 h20 (by omega)
        have hE4 := (hE3.below (hidW_below w3)).keptR hK4 hrb
        have hK4' := (hK3'.trans (Kept.of_below (fp := [rb]) (hidW_below w3))).trans hK4
        have hkL : k < L.length := by rw [HL.out]; exact hlt
        have hkm := List.getElem_mem hkL
        obtain ⟨hh, hcs, hi, hst, _⟩ := hE4.el _ hkm
        have HCS := Lib.hid hcs
        have c3 : w4.cell? ⟨g, k * 4 + 3, none⟩ = some hh := hE4.cellAt hkL (j := 3) (by decide) (by rw [hcs]; rfl)
        have f3 : w4.frozen? ⟨g, k * 4 + 3, none⟩ = false := hE4.frozen _
        have HOK := Lib.hid (hok _ hkm)
        have HI := Lib.hid (And.intro hi hst)
        obtain ⟨cur, fr, hcur⟩ := hty
        have HS : Hid (RowE sTok w.heap.size 33 (.slice (some ⟨g, 0, none⟩) L0.length cap) (L.set k ⟨[.int .i64 L[k].d.kind, .string L[k].d.text, .bool L[k].d.spaced, .slice (some ⟨hb, 0, none⟩) hn' hn'], ⟨L[k].d.kind, L[k].d.text, L[k].d.spaced, l⟩, [hb]⟩) (w4.setCell ⟨g, k * 4 + 3, none⟩ (.slice (some ⟨hb, 0, none⟩) hn' hn'))) := by
          refine hE4.set hkL (j := 3) (by decide) _ _ (by rw [HCS.out]; rfl) ⟨_, rfl, HI.out.1, HI.out.2, hRl⟩ (fun b hb' => ?_) (fun b hb' => ?_)
          · have e : b = hb := by simpa using hb'
            subst e
            have := hK3'.size; omega
          · have e : b = hb := by simpa using hb'
            subst e
            exact ⟨cur, _, fr, hcur, by decide⟩
        have HOKs : Hid (∀ x ∈ L.set k ⟨[.int .i64 L[k].d.kind, .string L[k].d.text, .bool L[k].d.spaced, .slice (some ⟨hb, 0, none⟩) hn' hn'], ⟨L[k].d.kind, L[k].d.text, L[k].d.spaced, l⟩, [hb]⟩, okTok x.d) := by
          intro x hx
          rcases List.mem_or_eq_of_mem_set hx with h | h
          · exact hok x h
          · subst h; exact ⟨HOK.out.1, HOK.out.2.1, HOK.out.2.2.1, hll⟩
        have HLs : Hid ((L.set k ⟨[.int .i64 L[k].d.kind, .string L[k].d.text, .bool L[k].d.spaced, .slice (some ⟨hb, 0, none⟩) hn' hn'], ⟨L[k].d.kind, L[k].d.text, L[k].d.spaced, l⟩, [hb]⟩).length = L0.length) := by show _ = _; rw [List.length_set]; exact HL.out
        have hR5 : Hid (Rd (w4.setCell ⟨g, k * 4 + 3, none⟩ (.slice (some ⟨hb, 0, none⟩) hn' hn')) rb (q + 1 + 1)) := hR4.kept ((Kept.refl [g] w4).setCell (p := ⟨g, k * 4 + 3, none⟩) (by simp) _) (fun b hb' => by have e : b = g := (by simpa using hb'); omega)
        have hK5 : Hid (Kept [rb] w (w4.setCell ⟨g, k * 4 + 3, none⟩ (.slice (some ⟨hb, 0, none⟩) hn' hn'))) := keptSet hK4' hg1 _ _
        clear hcs hok hE hE3 hE4 hi hst HCS HI hcur hR3 hK hK3 hK3' hK4 hR hRl hkm hR4 hK4'
        go_wp2
        go_roundw
        case rel => exact ⟨k + 1, q + 1 + 1, _, by omega, by go_num, by omega, HLs.out, HS.out, HOKs.out, hR5.out, hK5.out⟩
        case measure => simp [intOf]; omega
      · have hr' : (r == 0) = false := by simp [hr]
        clear hr
        go_wp2
        go_roundw
        case rel => exact ⟨k + 1, q + 1, L, by omega, by go_num, by omega, HL, hE3, hok, hR3, hK3'⟩
        case measure => simp [intOf]; omega
    · go_wp2_with fail
      refine (oddT rb q _ _ hR (by omega) (by omega) (by omega)).mono ?_
      rintro e w3 ⟨b, q2, rfl, hb1, hq1', hq2, hR3, hK3⟩
      have hE3 := hE.keptR hK3 hrb
      have hK3' := hK.trans hK3
      have HL1 := HL.out
      clear hE hK hR
      cases b
      · have HZ : Hid (least = 0) := by
          show _ = _
          by_cases h : 0 < least
          · exact absurd (hb1.out (hl1 h)) (by decide)
          · omega
        go_wp2
        go_ret
        exact ⟨_, L, q2, rfl, hE3, hok, by rw [HZ.out]; omega, by omega, by omega, hR3, hK3'⟩
      · go_wp2_with fail
        refine (pick rb q2 _ _ (hR3.grow (badW_below w3)) (by omega) (by omega) (by omega)).mono ?_
        rintro e w4 ⟨r2, rfl, h20, h21, hR4, hK4⟩
        obtain ⟨tk, ts, ao, tm, tl, tf, d0, d1, d2, d3, dR, dok, dlo, dty⟩ := bad_pick hR3.lt hK4 h20 (by omega)
        have hE4 := (hE3.below (badW_below w3)).keptR hK4 hrb
        have hK4' := (hK3'.trans (Kept.of_below (fp := [rb]) (badW_below w3))).trans hK4
        have hw4 : w3.heap.size ≤ w4.heap.size := Nat.le_trans (badW_below w3).size hK4.size
        have hw0 := hK4'.size
        have HT := Lib.hid (And.intro dR (And.intro (fun b hb => Nat.le_trans (Nat.le_trans hK3'.size (Nat.le_refl _)) (dlo b hb)) dty))
        have HR4 := Lib.hid hR4
        have HE4 := Lib.hid hE4
        have HOK := Lib.hid hok
        have HDK := Lib.hid dok
        have HK4' := Lib.hid hK4'
        clear hE3 hK3 hK3' hK4 hR3 dR dlo dty hE4 hR4 hok dok hK4' HL HN
        go_wp2_with (at_builtin; refine wp_append_tokE rfl (.tmp 51) (.tmp 59) rfl w.heap.size (.slice a L0.length cap) L rfl HE4.out tk ts false ao tm tm tl tf rfl HT.out.1 HT.out.2.1 HT.out.2.2 (by omega) hw0 ?_; intro v5 w5 hE5 hg5)
        go_ret
        exact ⟨v5, _, q2 + 1, rfl, hE5, okApp HOK.out HDK.out, by rw [List.length_append]; simp; omega, by rw [List.length_append]; simp; omega, by omega, grownRd HR4.out hg5 hrb HE4.out.mine, grownKept HK4'.out hg5 HE4.out.mine⟩

theorem blkKept {rb g : Nat} {w w' : World} {o : Obj} (h : w.heap[g]? = some o) (hk : Kept [rb] w w') (hn : g ≠ rb) : w'.heap[g]? = some o :=
  (hk.block g (Array.getElem?_eq_some_iff.1 h).1 (by simpa using hn)).trans h

end Go.Proofs.Ytipfpppcbmpjiaa

/- Copies of tokens: the model's own. -/
namespace Go.Proofs.Ytipfpppcbmpjiaa
open Go.RowKit

theorem run_append_nil {P : Program} {w : World} (base : Nat) (t ty e : TypeId) (i : TypeInfo) (size c : Nat) (ht : P.underlying t = some (.slice e)) (hi : P.info? e = some i)
    (v : Value) (n : Nat) (xs : List Value) (hown : w.ownsRow base e size v n xs) : (Builtin.append_ #[t, t] ty #[v, .slice none 0 c]).run P w = .ok v w := by
  rcases hown.2 with ⟨rfl, rfl⟩ | ⟨g, cap, cur, rfl, _, _, hnc, _⟩
  · simp [Builtin.append_, run_underlying ht, sizeOf, typeInfo, hi, Builtin.lenOf, Builtin.firstCells]
  · simp [Builtin.append_, run_underlying ht, sizeOf, typeInfo, hi, Builtin.lenOf, Builtin.firstCells, hnc, storeCells]
/-- append(row, texts...), the texts of any slice that can be read. -/
theorem wp_append_strsR {w : World} {ops : Array Oper} {rest : List Oper} {o : Oper} {a : Act} {Q : Exit → Act → World → Prop} (hg : o.guard = none) (s y : Operand)
    (ho : o.op = .call { callee := .builtin .append, args := #[s, y], argTypes := #[31, 31] })
    (base : Nat) (v u : Value) (L M : List ByteArray) (fp : List Nat) (hs : a.eval s = v) (hown : w.ownsRow base 9 1 v L.length (L.map Value.string)) (hy : a.eval y = u) (HM : (sSlice sStr).R w [u] M fp)
    (h63 : L.length + M.length ≤ 4000000) (hbase : base ≤ w.heap.size)
    (h : ∀ v' w', w'.ownsRow base 9 1 v' (L ++ M).length ((L ++ M).map Value.string) → w.grownBy w' v.ownBlock → wpList Try.prog ops Q rest (a.put o.dst v') w') : wpList Try.prog ops Q (o :: rest) a w := by
  obtain ⟨i, hi, hz0, hz1, hz2⟩ := info_parts ti27.2
  obtain ⟨ad, cap, rfl, hc, hm, hcell, hsz⟩ := open_strs HM
  have key : ∀ (b off : Nat), (0 < M.length → ∀ j, (hj : j < M.length) → w.cell? ⟨b, off + j, none⟩ = some (.string M[j])) → a.eval y = .slice (some ⟨b, off, none⟩) M.length cap → wpList Try.prog ops Q (o :: rest) a w := by
    intro b off hat hy'
    refine wpList_append_own _ hg s y 31 ho base 9 i _ 1 16 ti27.1 hi hz0 hz1 hz2 rfl (by decide) v L.length (L.map Value.string) hs hown ⟨b, off, none⟩ M.length cap (M.map Value.string) hy' (by simp) ?_ ?_ (by unfold maxLen; omega) (by omega) hbase fun v' w' h1 h2 _ => h v' w' ?_ h2
    · intro j x hj
      have hj' : j < M.length := by have := (List.getElem?_eq_some_iff.1 hj).1; simpa using this
      rw [Addr.add_lit, hat (by omega) j hj', ← hj]
      simp [List.getElem?_eq_getElem hj']
    · intro x hx
      obtain ⟨s, _, rfl⟩ := List.mem_map.1 hx
      rfl
    · simpa using h1
  by_cases h0 : 0 < M.length
  · obtain ⟨b, off, rfl, _, _, hc2⟩ := hcell h0
    exact key b off (fun _ j hj => hc2 j hj) hy
  · have hM : M = [] := List.length_eq_zero_iff.1 (by omega)
    subst hM
    cases ad with
    | none =>
      have hrun := run_append_nil (P := Try.prog) (w := w) base 31 o.type 9 i 1 cap ti27.1 hi v L.length _ hown
      have hK := h v w (by simpa using hown) ⟨rfl, rfl, rfl, Nat.le_refl _, fun _ _ _ => rfl⟩
      refine wpList_plain hg fun K hK' => ?_
      unfold Oper.wp
      simp only [List.length_nil] at hy
      simp [execOp, ho, resolve, invoke, builtin, hs, hy, hrun, Result.andThen]
      exact hK' _ _ hK
    | some ad =>
      refine wpList_append_own _ hg s y 31 ho base 9 i _ 1 16 ti27.1 hi hz0 hz1 hz2 rfl (by decide) v L.length (L.map Value.string) hs hown ad 0 cap [] hy rfl (by simp) (by simp) (by unfold maxLen; omega) (by omega) hbase fun v' w' h1 h2 _ => h v' w' (by simpa using h1) h2

/-- A token of the call's own. -/
def OwnTok (x : Tok) (w : World) (e : Ending) (w' : World) : Prop :=
  ∃ (ao : Option Addr) (c : Nat) (fp : List Nat), e = .returned (.agg #[.int .i64 x.kind, .string x.text, .bool x.spaced, .slice ao x.hidden.length c]) ∧ sTok.R w' [.int .i64 x.kind, .string x.text, .bool x.spaced, .slice ao x.hidden.length c] x fp ∧
    (∀ b ∈ fp, w.heap.size ≤ b) ∧ (∀ b ∈ fp, ∃ cur t fr, w'.heap[b]? = some (.cells cur t fr) ∧ t = 9) ∧ Below w.heap.size w w'

set_option maxHeartbeats 4000000 in
set_option maxRecDepth 100000 in
theorem spec_l1OwnToken (cs : List Value) (x : Tok) (fp : List Nat) (w : World) (hx : x.hidden.length ≤ 2000000) (H : sTok.R w cs x fp) : Calls Try.prog 56 #[.agg cs.toArray] w (OwnTok x w) := by
  obtain ⟨h, rfl, hk, hok, K⟩ := H
  obtain ⟨a0, cap0, rfl, -, -, -, hsz⟩ := open_strs K
  have hb3 := below3 w #[.int .i64 x.kind, .string x.text, .bool x.spaced, .slice a0 x.hidden.length cap0] #[.int .i64 0, .string ⟨#[]⟩, .bool false, .slice none 0 0] #[.int .i64 x.kind, .string x.text, .bool x.spaced, .slice a0 x.hidden.length cap0] 33 33 33
  have g0 := alloc3_blk0 w #[.int .i64 x.kind, .string x.text, .bool x.spaced, .slice a0 x.hidden.length cap0] #[.int .i64 0, .string ⟨#[]⟩, .bool false, .slice none 0 0] #[.int .i64 x.kind, .string x.text, .bool x.spaced, .slice a0 x.hidden.length cap0] 33 33 33
  obtain ⟨g1, g2, hs3⟩ := alloc3_blk w #[.int .i64 x.kind, .string x.text, .bool x.spaced, .slice a0 x.hidden.length cap0] #[.int .i64 0, .string ⟨#[]⟩, .bool false, .slice none 0 0] #[.int .i64 x.kind, .string x.text, .bool x.spaced, .slice a0 x.hidden.length cap0] 33 33 33
  have HK := Lib.hid ((sSlice sStr).below K hb3)
  have HSZ := Lib.hid hsz
  clear K hsz
  obtain ⟨hv, HV⟩ : ∃ hv : Value, Hid (hv = Value.slice a0 x.hidden.length cap0) := ⟨_, rfl⟩
  go_enter Try.func56, Try.ntmps56
  go_upto_region 2 with fail
  generalize (((w.alloc (.cells #[.int .i64 x.kind, .string x.text, .bool x.spaced, .slice a0 x.hidden.length cap0] 33)).alloc (.cells #[.int .i64 0, .string ⟨#[]⟩, .bool false, .slice none 0 0] 33)).alloc (.cells #[.int .i64 x.kind, .string x.text, .bool x.spaced, .slice a0 x.hidden.length cap0] 33)) = W3 at *
  have hba := alloc_below' W3 (.cells #[] 9)
  have c03 : (W3.alloc (.cells #[] 9)).cell? ⟨w.heap.size, 3, none⟩ = some hv := by
    rw [HV.out]
    exact (hba.cell (p := ⟨w.heap.size, 3, none⟩) (by show w.heap.size < _; omega)).trans (cell_of_row _ _ 3 _ _ _ g0)
  have hlit : Hid ((W3.alloc (.cells #[] 9)).ownsRow W3.heap.size 9 1 (.slice (some ⟨W3.heap.size, 0, none⟩) 0 0) ([] : List ByteArray).length (([] : List ByteArray).map Value.string)) :=
    World.ownsRow_lit (base := W3.heap.size) (e := 9) (size := 1) W3 #[] 0 (Nat.le_refl _) (by simp) rfl
  have HKV : Hid ((sSlice sStr).R (W3.alloc (.cells #[] 9)) [hv] x.hidden fp) := by show (sSlice sStr).R _ _ _ _; rw [HV.out]; exact (sSlice sStr).below HK.out hba
  have HG := Lib.hid (And.intro g1 (And.intro g2 hs3))
  have hb4 := Lib.hid (hb3.trans (hba.mono hb3.size))
  clear g0 g1 g2 hb3 hs3 HK hba
  go_wp2_with (
    at_builtin
    refine wp_append_strsR rfl (.tmp 5) (.tmp 7) rfl W3.heap.size (.slice (some ⟨W3.heap.size, 0, none⟩) 0 0) hv [] x.hidden _ rfl hlit.out rfl HKV.out (by simp; omega) (by simp) ?_
    intro v5 w1 hown hgrow
    rw [List.nil_append] at hown
    obtain ⟨fp1, R1, O1, hfp⟩ := own_flat (ok := okStr) hown HSZ.out
    have hs3 := HG.out.2.2
    have hblk : ∀ k, k < W3.heap.size → w1.heap[k]? = W3.heap[k]? := fun k hk => (hgrow.block k (by simp; omega) (by simp [Value.ownBlock]; omega)).trans ((alloc_below' W3 _).block k hk)
    have HG1 : Hid (w1.heap[w.heap.size + 1]? = some (.cells #[.int .i64 0, .string ⟨#[]⟩, .bool false, .slice none 0 0] 33 (0, 0)) ∧ w1.heap[w.heap.size + 1 + 1]? = some (.cells #[.int .i64 x.kind, .string x.text, .bool x.spaced, .slice a0 x.hidden.length cap0] 33 (0, 0))) :=
      ⟨(hblk _ (by omega)).trans HG.out.1, (hblk _ (by omega)).trans HG.out.2.1⟩
    have hb : Below w.heap.size w w1 := hb4.out.grown hgrow (by simp; omega) (fun b hb => by simp [Value.ownBlock] at hb; omega)
    have hty : ∀ b ∈ fp1, ∃ cur t fr, w1.heap[b]? = some (.cells cur t fr) ∧ t = 9 := fun b hb' => by
      have hv := hfp b hb'
      rcases hown.2 with ⟨rfl, _⟩ | ⟨g, cap, cur, rfl, _, hg, _⟩
      · simp [Value.ownBlock] at hv
      · simp only [Value.ownBlock, Option.some.injEq] at hv
        subst hv
        exact ⟨_, _, _, hg, rfl⟩
    have hlo : ∀ b ∈ fp1, w.heap.size + 3 ≤ b := fun b hb => by have := (O1.2 b hb).1; omega
    clear HG hblk hgrow hown hfp O1 c03 hb4 HKV hlit hs3
    obtain ⟨a1, cap1, rfl, hq⟩ := open_rows R1
    clear hq
    have c10 : w1.cell? ⟨w.heap.size + 1, 0, none⟩ = some (.int .i64 0) := cell_of_row w1 (w.heap.size + 1) 0 _ _ _ HG1.out.1
    have c11 : w1.cell? ⟨w.heap.size + 1, 1, none⟩ = some (.string ⟨#[]⟩) := cell_of_row w1 (w.heap.size + 1) 1 _ _ _ HG1.out.1
    have c12 : w1.cell? ⟨w.heap.size + 1, 2, none⟩ = some (.bool false) := cell_of_row w1 (w.heap.size + 1) 2 _ _ _ HG1.out.1
    have c13 : w1.cell? ⟨w.heap.size + 1, 3, none⟩ = some (.slice none 0 0) := cell_of_row w1 (w.heap.size + 1) 3 _ _ _ HG1.out.1
    have c20 : w1.cell? ⟨w.heap.size + 1 + 1, 0, none⟩ = some (.int .i64 x.kind) := cell_of_row w1 (w.heap.size + 1 + 1) 0 _ _ _ HG1.out.2
    have c21 : w1.cell? ⟨w.heap.size + 1 + 1, 1, none⟩ = some (.string x.text) := cell_of_row w1 (w.heap.size + 1 + 1) 1 _ _ _ HG1.out.2
    have c22 : w1.cell? ⟨w.heap.size + 1 + 1, 2, none⟩ = some (.bool x.spaced) := cell_of_row w1 (w.heap.size + 1 + 1) 2 _ _ _ HG1.out.2
    have c23 : w1.cell? ⟨w.heap.size + 1 + 1, 3, none⟩ = some (.slice a0 x.hidden.length cap0) := cell_of_row w1 (w.heap.size + 1 + 1) 3 _ _ _ HG1.out.2
    have f10 : w1.frozen? ⟨w.heap.size + 1, 0, none⟩ = false := frozen_of_row w1 (w.heap.size + 1) 0 _ _ HG1.out.1
    have f11 : w1.frozen? ⟨w.heap.size + 1, 1, none⟩ = false := frozen_of_row w1 (w.heap.size + 1) 1 _ _ HG1.out.1
    have f12 : w1.frozen? ⟨w.heap.size + 1, 2, none⟩ = false := frozen_of_row w1 (w.heap.size + 1) 2 _ _ HG1.out.1
    have f13 : w1.frozen? ⟨w.heap.size + 1, 3, none⟩ = false := frozen_of_row w1 (w.heap.size + 1) 3 _ _ HG1.out.1
    have f23 : w1.frozen? ⟨w.heap.size + 1 + 1, 3, none⟩ = false := frozen_of_row w1 (w.heap.size + 1 + 1) 3 _ _ HG1.out.2
    have hn1 : w.heap.size + 1 ∉ fp1 := fun hx => by have := hlo _ hx; omega
    have hn2 : w.heap.size + 1 + 1 ∉ fp1 := fun hx => by have := hlo _ hx; omega
    have HLO : Hid (∀ b ∈ fp1, w.heap.size ≤ b) := fun b hb => by have := hlo b hb; omega
    have HR := Lib.hid ((sSlice sStr).setB ((sSlice sStr).setB ((sSlice sStr).setB ((sSlice sStr).setB ((sSlice sStr).setB R1 hn2 3 (.slice a1 x.hidden.length cap1)) hn1 0 (.int .i64 x.kind)) hn1 1 (.string x.text)) hn1 2 (.bool x.spaced)) hn1 3 (.slice a1 x.hidden.length cap1))
    have HT : Hid (∀ b ∈ fp1, ∃ cur t fr, (((((w1.setCell ⟨w.heap.size + 1 + 1, 3, none⟩ (.slice a1 x.hidden.length cap1)).setCell ⟨w.heap.size + 1, 0, none⟩ (.int .i64 x.kind)).setCell ⟨w.heap.size + 1, 1, none⟩ (.string x.text)).setCell ⟨w.heap.size + 1, 2, none⟩ (.bool x.spaced)).setCell ⟨w.heap.size + 1, 3, none⟩ (.slice a1 x.hidden.length cap1)).heap[b]? = some (.cells cur t fr) ∧ t = 9) := fun b hb => by
      obtain ⟨cur, t, fr, q1, q2⟩ := hty b hb
      have e1 : b ≠ w.heap.size + 1 := fun e => hn1 (e ▸ hb)
      have e2 : b ≠ w.heap.size + 1 + 1 := fun e => hn2 (e ▸ hb)
      exact ⟨cur, t, fr, blk_other (blk_other (blk_other (blk_other (blk_other q1 e2 _ _) e1 _ _) e1 _ _) e1 _ _) e1 _ _, q2⟩
    have HB := Lib.hid (((((hb.setCell (p := ⟨w.heap.size + 1 + 1, 3, none⟩) (by simp; omega) (.slice a1 x.hidden.length cap1)).setCell (p := ⟨w.heap.size + 1, 0, none⟩) (by simp) (.int .i64 x.kind)).setCell (p := ⟨w.heap.size + 1, 1, none⟩) (by simp) (.string x.text)).setCell (p := ⟨w.heap.size + 1, 2, none⟩) (by simp) (.bool x.spaced)).setCell (p := ⟨w.heap.size + 1, 3, none⟩) (by simp) (.slice a1 x.hidden.length cap1))
    have HS := Lib.hid (blk_set (blk_set (blk_set (blk_set (blk_other HG1.out.1 (by omega : w.heap.size + 1 ≠ w.heap.size + 1 + 1) 3 (.slice a1 x.hidden.length cap1)) 0 (.int .i64 x.kind)) 1 (.string x.text)) 2 (.bool x.spaced)) 3 (.slice a1 x.hidden.length cap1))
    clear HG1 hty hlo)
  refine bodyPost_ret (results_cell_row rfl _ _ (w.heap.size + 1) _ _ _ _ rfl HS.out Try.underlying33 rfl (by kernel_rfl)) rfl ?_
  exact ⟨a1, cap1, fp1, rfl, ⟨_, rfl, hk, hok, HR.out⟩, HLO.out, HT.out, HB.out⟩

/-- A list of tokens as the call's own copy. -/
def OwnToks (l : List Tok) (w : World) (e : Ending) (w' : World) : Prop := ∃ v fp, e = .returned v ∧ (sSlice sTok).R w' [v] l fp ∧ Below w.heap.size w w'
/-- .. and in which blocks it lies. -/
def NoMac (w : World) (fp : List Nat) : Prop := ∀ b ∈ fp, ∃ cur t fr, w.heap[b]? = some (.cells cur t fr) ∧ t ≠ 70
theorem NoMac.same {w w' : World} {fp : List Nat} (h : NoMac w fp) (hb : ∀ b ∈ fp, b < w.heap.size → w'.heap[b]? = w.heap[b]?) : NoMac w' fp := fun b hb' => by
  obtain ⟨cur, t, fr, h1, h2⟩ := h b hb'
  exact ⟨cur, t, fr, (hb b hb' (Array.getElem?_eq_some_iff.1 h1).1).trans h1, h2⟩
theorem NoMac.below {w w' : World} {fp : List Nat} (h : NoMac w fp) (hb : Below w.heap.size w w') : NoMac w' fp := h.same fun b _ hl => hb.block b hl
/-- Blocks of tokens and of their texts alone. -/
def TokTy (w : World) (fp : List Nat) : Prop := ∀ b ∈ fp, ∃ cur t fr, w.heap[b]? = some (.cells cur t fr) ∧ (t = 33 ∨ t = 9)
theorem TokTy.same {w w' : World} {fp : List Nat} (h : TokTy w fp) (hb : ∀ b ∈ fp, b < w.heap.size → w'.heap[b]? = w.heap[b]?) : TokTy w' fp := fun b hb' => by
  obtain ⟨cur, t, fr, h1, h2⟩ := h b hb'
  exact ⟨cur, t, fr, (hb b hb' (Array.getElem?_eq_some_iff.1 h1).1).trans h1, h2⟩
theorem TokTy.below {w w' : World} {fp : List Nat} (h : TokTy w fp) (hb : Below w.heap.size w w') : TokTy w' fp := h.same fun b _ hl => hb.block b hl
theorem TokTy.mac {w : World} {fp : List Nat} (h : TokTy w fp) : NoMac w fp := fun b hb => by
  obtain ⟨cur, t, fr, h1, h2⟩ := h b hb
  refine ⟨cur, t, fr, h1, ?_⟩
  rcases h2 with rfl | rfl <;> decide
def OwnToksS (l : List Tok) (w : World) (e : Ending) (w' : World) : Prop := ∃ v fp, e = .returned v ∧ (sSlice sTok).R w' [v] l fp ∧ (∀ b ∈ fp, w.heap.size ≤ b) ∧ TokTy w' fp ∧ Below w.heap.size w w'
set_option maxHeartbeats 4000000 in
set_option maxRecDepth 100000 in
theorem spec_l1OwnTokenList_s (v : Value) (l : List Tok) (fp : List Nat) (w : World) (hl : l.length ≤ 1048576) (hx : ∀ k, (hk : k < l.length) → l[k].hidden.length ≤ 2000000) (H : (sSlice sTok).R w [v] l fp) :
    Calls Try.prog 30 #[v] w (OwnToksS l w) := by
  obtain ⟨a, cap, rfl, hc, hm, hrow⟩ := open_rows H
  unfold maxLen at hm
  clear H
  have HX := Lib.hid hx
  clear hx
  have hlit : Hid (RowE sTok w.heap.size 33 (.slice (some ⟨w.heap.size, 0, none⟩) 0 0) [] (w.alloc (.cells #[] 33))) := RowE.lit [] (by simp) (by simp) (by simp) (by simp) (Nat.le_refl _) (by simp)
  have hba := alloc_below' w (.cells #[] 33)
  go_enter Try.func30, Try.ntmps30
  go_wp2
  go_loopw [3, 4] (fun o i wr => ∃ (k : Nat) (L : List (Elem Tok)), k ≤ l.length ∧ i = .int .i64 k ∧ Hid (RowE sTok w.heap.size 33 o L wr) ∧ Hid (L.map (·.d) = l.take k) ∧ Hid (∀ x ∈ L, TokTy wr x.fp) ∧ Below w.heap.size w wr) (fun _ i _ => l.length - (intOf i).toNat)
  case atStart => exact ⟨0, [], by omega, rfl, hlit, rfl, (show ∀ x ∈ ([] : List (Elem Tok)), TokTy _ x.fp from by simp), hba⟩
  case round =>
    clear hlit hba
    obtain ⟨k, L, hk, rfl, HE, HD, HN, hb⟩ := hrel
    by_cases hlt : k < l.length
    · obtain ⟨b1, off1, fps1, rfl, hb1, -, he1⟩ := hrow (by omega)
      obtain ⟨es1, hE1, hR1⟩ := he1 k hlt
      clear hrow he1
      have hR2 := sTok.below hR1 hb
      obtain ⟨h1', rfl, _, _, _⟩ := hR1
      have HC := Lib.hid (spec_l1OwnToken _ _ _ wr (HX.out k hlt) hR2)
      clear hR2
      replace hE1 := hE1.frame (hb.block b1 hb1)
      have c10 : wr.cell? ⟨b1, off1 + k * 4, none⟩ = some _ := elem_cell0 hE1 (by decide) rfl
      have c11 : wr.cell? ⟨b1, off1 + k * 4 + 1, none⟩ = some _ := elem_cell (j := 1) hE1 (by decide) rfl
      have c12 : wr.cell? ⟨b1, off1 + k * 4 + 2, none⟩ = some _ := elem_cell (j := 2) hE1 (by decide) rfl
      have c13 : wr.cell? ⟨b1, off1 + k * 4 + 3, none⟩ = some _ := elem_cell (j := 3) hE1 (by decide) rfl
      clear hE1
      have HLl : Hid (L.length = k) := by have := congrArg List.length HD.out; simp at this; show _ = _; omega
      go_wp2_with fail
      refine HC.out.mono ?_
      rintro e w2 ⟨ao, c, fp2, rfl, hR2, hlo2, hty2, hb2⟩
      obtain ⟨ar, capr, rfl, -⟩ := HE.out.val
      have hE2 := HE.out.below hb2
      have hty2' : ∀ b ∈ fp2, ∃ cur t fr, w2.heap[b]? = some (.cells cur t fr) ∧ t ≠ 33 := fun b hb => by obtain ⟨cur, t, fr, h1, h2⟩ := hty2 b hb; exact ⟨cur, t, fr, h1, by rw [h2]; decide⟩
      have HN2 : Hid (∀ x ∈ L ++ [(⟨[.int .i64 l[k].kind, .string l[k].text, .bool l[k].spaced, .slice ao l[k].hidden.length c], ⟨l[k].kind, l[k].text, l[k].spaced, l[k].hidden⟩, fp2⟩ : Elem Tok)], TokTy w2 x.fp) := fun x hx => by
        rcases List.mem_append.1 hx with hx | hx
        · exact (HN.out x hx).below hb2
        · obtain rfl := List.mem_singleton.1 hx
          intro b hb
          obtain ⟨cur, t, fr, h1, h2⟩ := hty2 b hb
          exact ⟨cur, t, fr, h1, .inr h2⟩
      have hbw := hb.trans (hb2.mono hb.size)
      have hlo3 : ∀ b ∈ fp2, w.heap.size ≤ b := fun b hx => Nat.le_trans hb.size (hlo2 b hx)
      clear c10 c11 c12 c13 HC HE
      go_wp2_with (at_builtin; refine wp_append_tokE rfl (.tmp 12) (.tmp 18) rfl w.heap.size (.slice ar L.length capr) L rfl hE2 l[k].kind l[k].text l[k].spaced ao l[k].hidden.length c l[k].hidden fp2 rfl hR2 hlo3 hty2' (by have := HLl.out; omega) hbw.size ?_; intro v3 w3 hE3 hg3)
      have hb3 : Below w.heap.size w w3 := hbw.grown hg3 hbw.size (fun b hb => (hE2.row.lt b hb).1)
      have HE3 := Lib.hid hE3
      have HN3 : Hid (∀ x ∈ L ++ [(⟨[.int .i64 l[k].kind, .string l[k].text, .bool l[k].spaced, .slice ao l[k].hidden.length c], ⟨l[k].kind, l[k].text, l[k].spaced, l[k].hidden⟩, fp2⟩ : Elem Tok)], TokTy w3 x.fp) := fun x hx => (HN2.out x hx).same fun b hb hl => hg3.block b hl (by
        rcases List.mem_append.1 hx with hx | hx
        · exact fun e => hE2.ap hx hb e.symm
        · obtain rfl := List.mem_singleton.1 hx
          intro e
          obtain ⟨cur, t, fr, h1, h2⟩ := hty2' b hb
          obtain ⟨g, capg, curg, q1, q2, q3, -⟩ : ∃ g capg curg, Value.slice ar L.length capr = .slice (some ⟨g, 0, none⟩) L.length capg ∧ w.heap.size ≤ g ∧ w2.heap[g]? = some (.cells curg 33 (0, 0)) ∧ True := by
            rcases hE2.row.2 with ⟨h0, _⟩ | ⟨g, capg, curg, q1, q2, q3, -⟩
            · rw [h0] at e; simp [Value.ownBlock] at e
            · exact ⟨g, capg, curg, q1, q2, q3, trivial⟩
          rw [q1] at e
          simp only [Value.ownBlock, Option.some.injEq] at e
          subst e
          rw [h1] at q3
          simp only [Option.some.injEq, Obj.cells.injEq] at q3
          exact h2 q3.2.1)
      have HD3 : Hid ((L ++ [(⟨[.int .i64 l[k].kind, .string l[k].text, .bool l[k].spaced, .slice ao l[k].hidden.length c], ⟨l[k].kind, l[k].text, l[k].spaced, l[k].hidden⟩, fp2⟩ : Elem Tok)]).map (·.d) = l.take (k + 1)) := by
        show _ = _
        rw [List.map_append, HD.out, List.take_succ_eq_append_getElem hlt]; rfl
      clear hE2 hE3 hg3 hR2 hty2 hty2' hlo2 hlo3 hb2 HN2 HN
      go_roundw
      case rel => exact ⟨k + 1, _, by omega, by go_num, HE3, HD3, HN3, hb3⟩
      case measure => simp [intOf]; omega
    · obtain ⟨fpr, hr, hin, -⟩ := slice_of_row HE.out.row fun x hx => ⟨HE.out.len x hx, HE.out.el x hx⟩
      have HLO : Hid (∀ b ∈ fpr, w.heap.size ≤ b) := fun b hb => by
        rcases hin b hb with h | h
        · exact HE.out.mine b h
        · obtain ⟨x, hx, hb'⟩ := List.mem_flatMap.1 h
          exact HE.out.lo x hx b hb'
      have HNM : Hid (TokTy wr fpr) := fun b hb => by
        rcases hin b hb with h | h
        · rcases HE.out.row.2 with ⟨h0, _⟩ | ⟨g, capg, curg, q1, q2, q3, -⟩
          · rw [h0] at h; simp [Value.ownBlock] at h
          · rw [q1] at h
            simp only [Value.ownBlock, Option.some.injEq] at h
            subst h
            exact ⟨_, _, _, q3, .inl rfl⟩
        · obtain ⟨x, hx, hb'⟩ := List.mem_flatMap.1 h
          exact HN.out x hx b hb'
      clear hin
      have hd := HD.out
      rw [List.take_of_length_le (by omega)] at hd
      rw [hd] at hr
      have HR := Lib.hid hr
      clear hr hd HE HD HN
      go_wp2
      go_ret
      exact ⟨_, fpr, rfl, HR.out, HLO.out, HNM.out, hb⟩
def OwnToksT (l : List Tok) (w : World) (e : Ending) (w' : World) : Prop := ∃ v fp, e = .returned v ∧ (sSlice sTok).R w' [v] l fp ∧ (∀ b ∈ fp, w.heap.size ≤ b) ∧ NoMac w' fp ∧ Below w.heap.size w w'
theorem spec_l1OwnTokenList_t (v : Value) (l : List Tok) (fp : List Nat) (w : World) (hl : l.length ≤ 1048576) (hx : ∀ k, (hk : k < l.length) → l[k].hidden.length ≤ 2000000) (H : (sSlice sTok).R w [v] l fp) :
    Calls Try.prog 30 #[v] w (OwnToksT l w) := (spec_l1OwnTokenList_s v l fp w hl hx H).mono fun _ _ ⟨v, fp, h1, h2, h3, h4, h5⟩ => ⟨v, fp, h1, h2, h3, h4.mac, h5⟩
theorem spec_l1OwnTokenList (v : Value) (l : List Tok) (fp : List Nat) (w : World) (hl : l.length ≤ 1048576) (hx : ∀ k, (hk : k < l.length) → l[k].hidden.length ≤ 2000000) (H : (sSlice sTok).R w [v] l fp) :
    Calls Try.prog 30 #[v] w (OwnToks l w) := (spec_l1OwnTokenList_t v l fp w hl hx H).mono fun _ _ ⟨v, fp, h1, h2, _, _, h3⟩ => ⟨v, fp, h1, h2, h3⟩

end Go.Proofs.Ytipfpppcbmpjiaa

/- The program's reading of parameters: the closing bracket. -/
namespace Go.Proofs.Ytipfpppcbmpjiaa
open Go.RowKit
end Go.Proofs.Ytipfpppcbmpjiaa

/- The program's reading of parameters. -/
namespace Go.Proofs.Ytipfpppcbmpjiaa
open Go.RowKit
end Go.Proofs.Ytipfpppcbmpjiaa
