/- Marks in slices of texts and of numbers. -/
import Derived.Test.YtkamfppefmpacaaMark
import Derived.Deep.RegionHeld3
import Derived.Outline
namespace Go.Proofs.Ytkamfppefmpacaa
open Go.RowKit

theorem mdig_size : ∀ (f k : Nat) (acc : ByteArray), (mdig f k acc).size ≤ acc.size + k
  | 0, k, acc => by simp [mdig]
  | f + 1, k, acc => by
    unfold mdig
    by_cases h : k = 0
    · rw [if_pos h]; omega
    · rw [if_neg h]
      have := mdig_size f (k / 10) (⟨#[UInt8.ofNat (48 + k % 10)]⟩ ++ acc)
      rw [ByteArray.size_append] at this
      have e : (⟨#[UInt8.ofNat (48 + k % 10)]⟩ : ByteArray).size = 1 := rfl
      omega
theorem mtext_size {k : Int} (h : k ≤ 4611686018427387904) : okStr (mtext k) := by
  unfold okStr mtext maxLen
  by_cases h0 : k ≤ 0
  · rw [if_pos h0]; decide
  · rw [if_neg h0, ByteArray.size_append]
    have := mdig_size k.toNat k.toNat ⟨#[]⟩
    have e : (⟨#[109]⟩ : ByteArray).size = 1 := rfl
    have e2 : (⟨#[]⟩ : ByteArray).size = 0 := rfl
    omega

def marks {α : Type} (f : Int → α) (k : Int) (n : Nat) : List α := (List.range n).map fun (i : Nat) => f (k + (i : Int))
def MarkUpto {α : Type} (f : Int → α) (k : Int) (L : List α) (i : Nat) : Prop := ∀ j, (h : j < L.length) → j < i → L[j] = f (k + j)
theorem MarkUpto.zero {α : Type} (f : Int → α) (k : Int) (L : List α) : MarkUpto f k L 0 := by intro j h hj; omega
theorem MarkUpto.succ {α : Type} {f : Int → α} {k : Int} {L : List α} {i : Nat} (h : MarkUpto f k L i) : MarkUpto f k (L.set i (f (k + i))) (i + 1) := by
  intro j hj hji
  by_cases e : j = i
  · subst e; rw [List.getElem_set_self]
  · rw [List.getElem_set_ne (fun h => e h.symm)]; exact h j (by simpa using hj) (by omega)
theorem MarkUpto.eq {α : Type} {f : Int → α} {k : Int} {L : List α} {i : Nat} (h : MarkUpto f k L i) (hi : L.length ≤ i) : L = marks f k L.length := by
  refine List.ext_getElem (by simp [marks]) fun j h1 h2 => ?_
  rw [h j h1 (by omega)]; simp [marks]
theorem marks_get {α : Type} (f : Int → α) (k : Int) (n i : Nat) (h : i < (marks f k n).length) : (marks f k n)[i] = f (k + i) := by simp [marks]
theorem marks_len {α : Type} (f : Int → α) (k : Int) (n : Nat) : (marks f k n).length = n := by simp [marks]

/-- What marking leaves: the slice's data are marks; nothing else has turned. -/
def Marked {α : Type} (S : Shape α) (v : Value) (d : α) (fp : List Nat) (lo : Nat) (r : Int) (w : World) (e : Ending) (w' : World) : Prop :=
  e = .returned (.int .i64 r) ∧ S.R w' [v] d fp ∧ Own w' lo fp ∧ Kept fp w w'

end Go.Proofs.Ytkamfppefmpacaa
