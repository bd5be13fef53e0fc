/- Texts that the proof of U stands on, in one file. -/
import Derived.Test.YtiaiggjfepoahaaZU7
import Derived.Test.YtiaiggjfepoahaaZU8
import Derived.Test.YtiaiggjfepoahaaZU1
import Derived.Laws.AppendOwnNone
import Derived.Test.YtiaiggjfepoahaaZU4
import Derived.Test.YtiaiggjfepoahaaZU5
import Derived.Test.YtiaiggjfepoahaaZU3
import Derived.Test.YtiaiggjfepoahaaZU6
set_option linter.unusedVariables false
set_option linter.unusedSimpArgs false
/- What the program reads as parameters is what the model reads, up to macros that are not valid: no program. -/
namespace Go.Proofs.Ytiaiggjfepoahaa
open Go.RowKit
end Go.Proofs.Ytiaiggjfepoahaa

/- Parts of slices, and slices behind other ones. -/
namespace Go.Proofs.Ytiaiggjfepoahaa
open Go.RowKit
end Go.Proofs.Ytiaiggjfepoahaa

/- MacroOf of the program. (Made by gen_mac14.py.) -/
namespace Go.Proofs.Ytiaiggjfepoahaa
open Go.RowKit
end Go.Proofs.Ytiaiggjfepoahaa

/- Weights and marks of tokens. No program. -/
namespace Go.Proofs.Ytiaiggjfepoahaa
open Go.RowKit
end Go.Proofs.Ytiaiggjfepoahaa

/- MacroOf of both, as the exact law calls them. -/
namespace Go.Proofs.Ytiaiggjfepoahaa
open Go.RowKit
end Go.Proofs.Ytiaiggjfepoahaa

/- Lists of lists of tokens: the laws' own helpers. -/
namespace Go.Proofs.Ytiaiggjfepoahaa
open Go.RowKit Go.ChangeShapes Go.WideShapes Go.Deep

abbrev sToks : Shape (List Tok) := sSlice sTok
end Go.Proofs.Ytiaiggjfepoahaa

/- Dividing arguments: the model, and what the program does. No program. -/
namespace Go.Proofs.Ytiaiggjfepoahaa
open Go.RowKit
end Go.Proofs.Ytiaiggjfepoahaa

/- Rows of the call's own whose elements may read memory of others, too: the elements' blocks lie before the row's. Over any program. -/
namespace Go.Proofs.Ytiaiggjfepoahaa
open Go.RowKit

structure RowG {α : Type} (S : Shape α) (base : Nat) (e : TypeId) (v : Value) (L : List (Elem α)) (w : World) : Prop where
  row : w.ownsRow base e S.m v L.length (L.flatMap (·.cells))
  len : ∀ x ∈ L, x.cells.length = S.m
  el : ∀ x ∈ L, S.R w x.cells x.d x.fp
  hi : ∀ x ∈ L, ∀ b ∈ x.fp, b < base

section
variable {α : Type} {S : Shape α} {base : Nat} {e : TypeId} {v v' : Value} {L : List (Elem α)} {w w' : World}
theorem RowG.nil (S : Shape α) (base : Nat) (e : TypeId) (w : World) : RowG S base e (.slice none 0 0) [] w := ⟨World.ownsRow_nil _ _ _ _, by simp, by simp, by simp⟩
theorem RowG.ap (h : RowG S base e v L w) : ∀ x ∈ L, ∀ b ∈ x.fp, v.ownBlock ≠ some b := fun x hx b hb hv => by
  have h1 := h.hi x hx b hb
  have h2 := (h.row.lt b hv).1
  omega
/-- An empty literal's row. -/
theorem RowG.lit0 (S : Shape α) (e : TypeId) (w : World) : RowG S w.heap.size e (.slice (some ⟨w.heap.size, 0, none⟩) 0 0) [] (w.alloc (.cells #[] e)) where
  row := World.ownsRow_lit (base := w.heap.size) (e := e) (size := S.m) w #[] 0 (Nat.le_refl _) (by unfold maxLen; omega) (by simp)
  len := by simp
  el := by simp
  hi := by simp
theorem RowG.same (h : RowG S base e v L w) (hv : ∀ g, v.ownBlock = some g → w'.heap[g]? = w.heap[g]?) (hb : ∀ x ∈ L, ∀ b ∈ x.fp, w'.heap[b]? = w.heap[b]?) : RowG S base e v L w' where
  row := ownsRow_same h.row hv
  len := h.len
  el := fun x hx => S.frame (fun b hb' => hb x hx b hb') (h.el x hx)
  hi := h.hi
theorem RowG.below (h : RowG S base e v L w) (hb : Below w.heap.size w w') : RowG S base e v L w' :=
  h.same (fun g hg => hb.block g (h.row.lt g hg).2) (fun x hx b hb' => hb.block b (S.lt (h.el x hx) b hb'))
theorem RowG.kept {K : List Nat} (h : RowG S base e v L w) (hk : Kept K w w') (hv : ∀ g, v.ownBlock = some g → g ∉ K) (hb : ∀ x ∈ L, ∀ b ∈ x.fp, b ∉ K) : RowG S base e v L w' :=
  h.same (fun g hg => hk.block g (h.row.lt g hg).2 (hv g hg)) (fun x hx b hb' => hk.block b (S.lt (h.el x hx) b hb') (hb x hx b hb'))
theorem RowG.read (h : RowG S base e v L w) : ∃ fp, (sSlice S).R w [v] (L.map (·.d)) fp ∧ (∀ b ∈ fp, v.ownBlock = some b ∨ ∃ x ∈ L, b ∈ x.fp) ∧ (Own w base (L.flatMap (·.fp)) → Own w base fp) := by
  obtain ⟨fp, h1, h2, h3⟩ := slice_of_row h.row fun x hx => ⟨h.len x hx, h.el x hx⟩
  refine ⟨fp, h1, fun b hb => ?_, fun ho => h3 ho fun g hg hm => ?_⟩
  · rcases h2 b hb with h | h
    · exact .inl h
    · obtain ⟨x, hx, hb'⟩ := List.mem_flatMap.1 h
      exact .inr ⟨x, hx, hb'⟩
  · obtain ⟨x, hx, hb'⟩ := List.mem_flatMap.1 hm
    exact h.ap x hx g hb' hg
theorem RowG.len_eq {g n cap : Nat} (h : RowG S base e (.slice (some ⟨g, 0, none⟩) n cap) L w) : L.length = n := by
  rcases h.row.2 with ⟨h', _⟩ | ⟨g', cap', cur, h', _⟩
  · cases h'
  · simp only [Value.slice.injEq] at h'; exact h'.2.1.symm
theorem RowG.frozen {g n cap : Nat} (h : RowG S base e (.slice (some ⟨g, 0, none⟩) n cap) L w) (o : Nat) : w.frozen? ⟨g, o, none⟩ = false := by
  rcases h.row.2 with ⟨h', _⟩ | ⟨g', cap', cur, h', _, hg, _⟩
  · cases h'
  · simp only [Value.slice.injEq, Option.some.injEq, Addr.mk.injEq, and_true] at h'
    obtain ⟨rfl, _⟩ := h'
    exact frozen_of_row w g o cur e hg
/-- An element's cells. -/
theorem RowG.cellAt {g n cap : Nat} (h : RowG S base e (.slice (some ⟨g, 0, none⟩) n cap) L w) {k : Nat} (hk : k < L.length) {j : Nat} (hj : j < S.m) {u : Value} (hu : L[k].cells[j]? = some u) : w.cell? ⟨g, k * S.m + j, none⟩ = some u := by
  have hn : L.length = n := h.len_eq
  subst hn
  rw [h.row.cellAt (k * S.m + j) (by have : (k + 1) * S.m ≤ L.length * S.m := Nat.mul_le_mul_right _ hk; rw [Nat.succ_mul] at this; omega)]
  exact (flatMap_at (f := Elem.cells) h.len hk hj).trans hu
/-- A store into an element. -/
theorem RowG.set {g n cap : Nat} (h : RowG S base e (.slice (some ⟨g, 0, none⟩) n cap) L w) {k : Nat} (hk : k < L.length) {j : Nat} (hj : j < S.m) (u : Value) (x' : Elem α) (hx : x'.cells = L[k].cells.set j u)
    (hR : S.R w x'.cells x'.d x'.fp) (hn : ∀ b ∈ x'.fp, b < base) :
    RowG S base e (.slice (some ⟨g, 0, none⟩) n cap) (L.set k x') (w.setCell ⟨g, k * S.m + j, none⟩ u) := by
  have hblk : ∀ b : Nat, b ≠ g → (w.setCell ⟨g, k * S.m + j, none⟩ u).heap[b]? = w.heap[b]? := fun b hb => Below.heap_setCell _ _ _ _ hb
  have hmem : ∀ x ∈ L.set k x', x = x' ∨ x ∈ L := fun x hx => by
    rcases List.mem_or_eq_of_mem_set hx with h | h
    · exact .inr h
    · exact .inl h
  have hne : ∀ x ∈ L, ∀ b ∈ x.fp, b ≠ g := fun x hx b hb e => h.ap x hx b hb (by rw [e]; rfl)
  refine ⟨?_, fun x hx' => ?_, fun x hx' => ?_, fun x hx' => ?_⟩
  · have hn := h.len_eq
    have hrow := h.row
    rw [hn] at hrow
    have := (hrow.stored (k * S.m + j) u).1
    rw [flatMap_set h.len hk hj u x' hx] at this
    rw [List.length_set, hn]
    exact this
  · rcases hmem x hx' with rfl | hx'
    · rw [hx, List.length_set]; exact h.len _ (List.getElem_mem hk)
    · exact h.len x hx'
  · rcases hmem x hx' with rfl | hx'
    · exact S.frame (fun b hb => hblk b (fun e => by have h1 := hn b hb; have h2 := (h.row.lt g rfl).1; omega)) hR
    · exact S.frame (fun b hb => hblk b (hne x hx' b hb)) (h.el x hx')
  · rcases hmem x hx' with rfl | hx'
    · exact hn
    · exact h.hi x hx'
end
end Go.Proofs.Ytiaiggjfepoahaa
