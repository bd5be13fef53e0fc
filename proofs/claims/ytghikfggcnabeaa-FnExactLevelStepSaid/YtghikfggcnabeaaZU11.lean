/- Texts that the proof of U stands on, in one file. -/
import Derived.Test.YtghikfggcnabeaaZU10
import Derived.Test.YtghikfggcnabeaaZU6
import Derived.Test.YtghikfggcnabeaaZU2
import Derived.Deep.RegionHeld3
import Derived.Test.YtghikfggcnabeaaZU5
import Derived.Test.YtghikfggcnabeaaZU4
import Derived.Test.YtghikfggcnabeaaZU1
import Derived.Test.YtghikfggcnabeaaZU8
import Derived.Test.YtghikfggcnabeaaZU9
import Derived.Test.YtghikfggcnabeaaZU3
set_option linter.unusedVariables false
set_option linter.unusedSimpArgs false
/- Arguments put into bodies: no program. -/
namespace Go.Proofs.Ytghikfggcnabeaa
open Go.RowKit
section
variable {m : DMacro} {raw ready : List (List Tok)} {k : Nat}
end
section
variable {m : DMacro} {raw ready : List (List Tok)} {k : Nat} {out part : List Tok} {emp paste : Bool} {nx : Nat} {ok : Bool}
end
end Go.Proofs.Ytghikfggcnabeaa

/- Four cells stored into one block; an operation of a drawn region taken first; two structs as results. Over any program. -/
namespace Go.Proofs.Ytghikfggcnabeaa
open Go.RowKit
section
variable {P : Program} {ops : Array Oper} {Q : Exit → Act → World → Prop} {md : Region.Mode} {S : World → Prop}
end
section
variable {α : Type} {S : Shape α} {w w7 : World} {g2 g3 : Nat} {T : TypeId} {z0 z1 z2 z3 y0 y1 y2 y3 : Value} {cs cs' : List Value} {d d' : α} {fp fp' : List Nat}
end

end Go.Proofs.Ytghikfggcnabeaa

/- TokenBytes of the model. -/
namespace Go.Proofs.Ytghikfggcnabeaa
open Go.RowKit
end Go.Proofs.Ytghikfggcnabeaa

/- A token by value: its marks. -/
namespace Go.Proofs.Ytghikfggcnabeaa
open Go.RowKit
end Go.Proofs.Ytghikfggcnabeaa

/- TextToken of the model. (Made by gen_txt.py.) -/
namespace Go.Proofs.Ytghikfggcnabeaa
open Go.RowKit
end Go.Proofs.Ytghikfggcnabeaa

/- Names of two lists, of both; slices.BinarySearch of strings. -/
namespace Go.Proofs.Ytghikfggcnabeaa
open Go.RowKit

/-! ### Places of names -/
/-! ### The library's -/
/-! ### Names that are in both -/
end Go.Proofs.Ytghikfggcnabeaa

/- PasteTokens of both. (Made by gen_pst2.py.) -/
namespace Go.Proofs.Ytghikfggcnabeaa
open Go.RowKit
end Go.Proofs.Ytghikfggcnabeaa

/- What stands for a place of a body: helpers of the model. -/
namespace Go.Proofs.Ytghikfggcnabeaa
open Go.RowKit
end Go.Proofs.Ytghikfggcnabeaa
