/- Texts that the proof of U stands on, in one file. -/
import Derived.Test.YtiaiggjfepoahaaZU5
import Derived.Test.YtiaiggjfepoahaaZU6
import Derived.Test.YtiaiggjfepoahaaZU2
import Derived.Test.YtiaiggjfepoahaaZU4
import Derived.Test.YtiaiggjfepoahaaZU1
import Derived.Laws.ResultCell
import Derived.Test.YtiaiggjfepoahaaZU7
import Derived.Deep.Cut
import Derived.Deep.CutRange
set_option linter.unusedVariables false
set_option linter.unusedSimpArgs false
/- MacroValid of the model. (Made by gen_mac3.py.) -/
namespace Go.Proofs.Ytiaiggjfepoahaa
open Go.RowKit
end Go.Proofs.Ytiaiggjfepoahaa

/- MacroValid of the program, from its parts. (Made by gen_mac5.py.) -/
namespace Go.Proofs.Ytiaiggjfepoahaa
open Go.RowKit
/-! ### Number signs -/
end Go.Proofs.Ytiaiggjfepoahaa

/- Lists of texts and of numbers are compared by the laws. -/
namespace Go.Proofs.Ytiaiggjfepoahaa
open Go.RowKit
end Go.Proofs.Ytiaiggjfepoahaa

/- Lists of tokens are compared by the laws. -/
namespace Go.Proofs.Ytiaiggjfepoahaa
open Go.RowKit
end Go.Proofs.Ytiaiggjfepoahaa

/- MacroValid of both; the laws' helpers over macros by value. -/
namespace Go.Proofs.Ytiaiggjfepoahaa
open Go.RowKit
end Go.Proofs.Ytiaiggjfepoahaa

/- A region that draws its order, walked by an invariant over what is done; and one in which all only reads but a literal, an append of it, and the store of the result. Over any program. -/
namespace Go.Proofs.Ytiaiggjfepoahaa
open Go.RowKit
end Go.Proofs.Ytiaiggjfepoahaa

/- What a function with a struct and another result hands back; boxes. Over any program. -/
namespace Go.Proofs.Ytiaiggjfepoahaa
open Go.RowKit
theorem mbox {w : World} {g : Nat} {arr : Array Value} {ty : TypeId} (h : w.heap[g]? = some (.cells arr ty (0, 0))) {w' : World} (hb : Below w.heap.size w w') : w'.heap[g]? = some (.cells arr ty (0, 0)) :=
  (hb.block g (Array.getElem?_eq_some_iff.1 h).1).trans h
theorem mlt {w : World} {g : Nat} {o : Obj} (h : w.heap[g]? = some o) : g < w.heap.size := (Array.getElem?_eq_some_iff.1 h).1

end Go.Proofs.Ytiaiggjfepoahaa

/- MacroOf of the model. (Made by gen_mac10.py.) -/
namespace Go.Proofs.Ytiaiggjfepoahaa
open Go.RowKit

/-! ### The model's theorem, way by way -/
end Go.Proofs.Ytiaiggjfepoahaa
