/- Texts that the proof of P stands on, in one file. -/
import Derived.Test.YtlegeancmcmbaaaDoorZP7
import Derived.Test.YtlegeancmcmbaaaDoorZP11
import Derived.Test.YtlegeancmcmbaaaDoorZP6
import Derived.Test.YtlegeancmcmbaaaDoorZP12
import Derived.Test.YtlegeancmcmbaaaDoorZP10
import Derived.Deep.CutRange
import Derived.Test.YtlegeancmcmbaaaDoorZP14
import Derived.Test.YtlegeancmcmbaaaDoorZP9
set_option linter.unusedVariables false
set_option linter.unusedSimpArgs false
/- A macro's copy, and a table's, as the call's own memory. (Made by gen_ownm.py.) -/
namespace Go.Proofs.YtlegeancmcmbaaaDoor
open Go.RowKit
theorem NoMac.app {w : World} {a b : List Nat} (h1 : NoMac w a) (h2 : NoMac w b) : NoMac w (a ++ b) := fun c hc => by
 rcases List.mem_append.1 hc with h | h
 ·exact h1 c h
 ·exact h2 c h

end Go.Proofs.YtlegeancmcmbaaaDoor

/- A table's copy, as the call's own memory (spec). -/
namespace Go.Proofs.YtlegeancmcmbaaaDoor
open Go.RowKit
end Go.Proofs.YtlegeancmcmbaaaDoor

/- Arguments put into a body (spec l10Body). (Made by gen_sub3.py.) -/
namespace Go.Proofs.YtlegeancmcmbaaaDoor
open Go.RowKit
end Go.Proofs.YtlegeancmcmbaaaDoor

/- Substitute of the program: what it asks beyond the contracts. Rows of the call's own whose elements' memory is its own, too. -/
namespace Go.Proofs.YtlegeancmcmbaaaDoor
open Go.RowKit

/-! ### Marks and parameters in a valid body -/
/-! ### Rows that are the call's own, elements and all -/
theorem flat_more {α : Type} (A X : List (Elem α)) : (A ++ X).flatMap (·.fp) = A.flatMap (·.fp) ++ X.flatMap (·.fp) := List.flatMap_append
theorem own_grownN {w w' : World} {lo : Nat} {fp : List Nat} {o : Option Nat} (h : Own w lo fp) (hn : ∀ b ∈ fp, o ≠ some b) (hg : w.grownBy w' o) : Own w' lo fp :=
 ⟨h.1, fun b hb => by
  obtain ⟨q1, cur, e, q2⟩ := h.2 b hb
  exact ⟨q1, cur, e, (hg.block b (h.lt b hb) fun e => hn b hb e.symm).trans q2⟩⟩
end Go.Proofs.YtlegeancmcmbaaaDoor

/- The two sides of a ## (pastePieces of the program). (Made by gen_sub9.py.) -/
namespace Go.Proofs.YtlegeancmcmbaaaDoor
open Go.RowKit
structure TwoN (base : Nat) (vd : Value) (D : List (Elem Tok)) (vl : Value) (L : List (Elem Tok)) (w : World) : Prop where
 d : RowN sTok base 47 vd D w
 l : RowN sTok base 47 vl L w
 own : Own w base (D.flatMap (·.fp) ++ L.flatMap (·.fp))
 ne : ∀ b, vd.ownBlock = some b → vl.ownBlock ≠ some b
 dl : ∀ x ∈ D, ∀ b ∈ x.fp, vl.ownBlock ≠ some b
 ld : ∀ x ∈ L, ∀ b ∈ x.fp, vd.ownBlock ≠ some b
section
variable {base : Nat} {vd vl : Value} {D L : List (Elem Tok)} {w w' : World}
theorem TwoN.below (h : TwoN base vd D vl L w) (hb : Below w.heap.size w w') : TwoN base vd D vl L w' := ⟨h.d.below hb, h.l.below hb, h.own.grow hb, h.ne, h.dl, h.ld⟩
theorem TwoN.lt (h : TwoN base vd D vl L w) : (∀ b, vd.ownBlock = some b → b < w.heap.size) ∧ (∀ b, vl.ownBlock = some b → b < w.heap.size) ∧ (∀ x ∈ D, ∀ b ∈ x.fp, b < w.heap.size) ∧ ∀ x ∈ L, ∀ b ∈ x.fp, b < w.heap.size :=
 ⟨fun b hb => (h.d.mine b hb).2, fun b hb => (h.l.mine b hb).2, fun x hx b hb => sTok.lt (h.d.el x hx) b hb, fun x hx b hb => sTok.lt (h.l.el x hx) b hb⟩
end
end Go.Proofs.YtlegeancmcmbaaaDoor

/- ReplaceDefined of the model. (Made by gen_con1.py.) -/
namespace Go.Proofs.YtlegeancmcmbaaaDoor
open Go.RowKit
end Go.Proofs.YtlegeancmcmbaaaDoor

/- Undefine (spec). -/
namespace Go.Proofs.YtlegeancmcmbaaaDoor
open Go.RowKit
end Go.Proofs.YtlegeancmcmbaaaDoor

/- A macro's copy, and a table's, of the program.  -/
namespace Go.Proofs.YtlegeancmcmbaaaDoor
open Go.RowKit
end Go.Proofs.YtlegeancmcmbaaaDoor
