/- Texts that the proof of U stands on, in one file. -/
import Derived.Test.YtghikfggcnabeaaZU8
import Derived.Test.YtghikfggcnabeaaZU7
import Derived.Test.YtghikfggcnabeaaZU1
import Derived.Laws.ResultCell
import Derived.Deep.Cut
import Derived.Deep.CutRange
import Derived.Laws.AppendOwnNone
import Derived.Test.YtghikfggcnabeaaZU4
import Derived.Test.YtghikfggcnabeaaZU3
set_option linter.unusedVariables false
set_option linter.unusedSimpArgs false
/- MacroValid of both; the laws' helpers over macros by value. -/
namespace Go.Proofs.Ytghikfggcnabeaa
open Go.RowKit
end Go.Proofs.Ytghikfggcnabeaa

/- A region that draws its order, walked by an invariant over what is done; and one in which all only reads but a literal, an append of it, and the store of the result. Over any program. -/
namespace Go.Proofs.Ytghikfggcnabeaa
open Go.RowKit
end Go.Proofs.Ytghikfggcnabeaa

/- What a function with a struct and another result hands back; boxes. Over any program. -/
namespace Go.Proofs.Ytghikfggcnabeaa
open Go.RowKit
theorem mbox {w : World} {g : Nat} {arr : Array Value} {ty : TypeId} (h : w.heap[g]? = some (.cells arr ty (0, 0))) {w' : World} (hb : Below w.heap.size w w') : w'.heap[g]? = some (.cells arr ty (0, 0)) :=
 (hb.block g (Array.getElem?_eq_some_iff.1 h).1).trans h
end Go.Proofs.Ytghikfggcnabeaa

/- MacroOf of the model. (Made by gen_mac10.py.) -/
namespace Go.Proofs.Ytghikfggcnabeaa
open Go.RowKit

/-! ### The model's theorem, way by way -/
end Go.Proofs.Ytghikfggcnabeaa

/- What the program reads as parameters is what the model reads, up to macros that are not valid: no program. -/
namespace Go.Proofs.Ytghikfggcnabeaa
open Go.RowKit
end Go.Proofs.Ytghikfggcnabeaa

/- Parts of slices, and slices behind other ones. -/
namespace Go.Proofs.Ytghikfggcnabeaa
open Go.RowKit

theorem slice_drop {α : Type} {S : Shape α} {w : World} {a : Option Addr} {len cap : Nat} {l : List α} {fp : List Nat} (i : Nat) (hi : i ≤ l.length) (H : (sSlice S).R w [.slice a len cap] l fp) :
  ∃ fp', (sSlice S).R w [.slice (if cap = i then a else a.map (·.add (i * S.m))) (len - i) (cap - i)] (l.drop i) fp' ∧ ∀ b ∈ fp', b ∈ fp := by
 obtain ⟨a', cap', hv, hc, hm, h⟩ := H
 simp only [List.cons.injEq, Value.slice.injEq, and_true] at hv
 obtain ⟨rfl, rfl, rfl⟩ := hv
 have hl : (l.drop i).length = l.length - i := by simp
 by_cases h0 : i = l.length
 ·refine ⟨[], ⟨_, _, by rw [hl], by rw [hl]; omega, by omega, .inl ⟨?_, rfl⟩⟩, by simp⟩
  subst h0; simp
 ·rcases h with ⟨rfl, _⟩ | ⟨_, b, off, fps, ha, rfl, hb, he⟩
  ·simp at hi; simp at h0; omega
  ·subst ha
   refine ⟨b :: (List.range (l.length - i)).flatMap fun j => fps (i + j), ⟨_, _, by rw [hl], by rw [hl]; omega, by omega, .inr ⟨by omega, b, off + i * S.m, fun j => fps (i + j), ?_, by rw [hl], hb, fun j hj => ?_⟩⟩, ?_⟩
   ·rw [if_neg (by omega), Option.map_some, Addr.add_lit]
   ·rw [hl] at hj
    obtain ⟨es, h1, h2⟩ := he (i + j) (by omega)
    refine ⟨es, ⟨h1.1, fun x hx => ?_⟩, by rw [List.getElem_drop]; exact h2⟩
    rw [← h1.2 x hx]
    congr 2
    rw [Nat.add_mul]; omega
   ·intro x hx
    rcases List.mem_cons.1 hx with rfl | hx
    ·simp
    ·obtain ⟨j, hj, hx⟩ := List.mem_flatMap.1 hx
     refine List.mem_cons_of_mem _ (List.mem_flatMap.2 ⟨i + j, ?_, hx⟩)
     simp only [List.mem_range] at hj ⊢
     omega

end Go.Proofs.Ytghikfggcnabeaa

/- MacroOf of the program. (Made by gen_mac14.py.) -/
namespace Go.Proofs.Ytghikfggcnabeaa
open Go.RowKit
end Go.Proofs.Ytghikfggcnabeaa

/- Weights and marks of tokens. No program. -/
namespace Go.Proofs.Ytghikfggcnabeaa
open Go.RowKit
end Go.Proofs.Ytghikfggcnabeaa
