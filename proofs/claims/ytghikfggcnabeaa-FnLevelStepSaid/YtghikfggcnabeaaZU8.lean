/- Texts that the proof of U stands on, in one file. -/
import Derived.Test.YtghikfggcnabeaaZU6
import Derived.Test.YtghikfggcnabeaaZU3
import Derived.Test.YtghikfggcnabeaaZU7
import Derived.Deep.Cut
import Derived.Test.YtghikfggcnabeaaZU4
import Derived.Test.YtghikfggcnabeaaZU2
import Derived.Test.YtghikfggcnabeaaZU5
import Derived.Test.YtghikfggcnabeaaZU1
set_option linter.unusedVariables false
set_option linter.unusedSimpArgs false
/- Copies of tokens: the model's own. -/
namespace Go.Proofs.Ytghikfggcnabeaa
open Go.RowKit
end Go.Proofs.Ytghikfggcnabeaa

/- The program's reading of parameters: the closing bracket. -/
namespace Go.Proofs.Ytghikfggcnabeaa
open Go.RowKit
end Go.Proofs.Ytghikfggcnabeaa

/- The program's reading of parameters. -/
namespace Go.Proofs.Ytghikfggcnabeaa
open Go.RowKit
end Go.Proofs.Ytghikfggcnabeaa

/- Parameters as they are read: the model. -/
namespace Go.Proofs.Ytghikfggcnabeaa
open Go.RowKit
end Go.Proofs.Ytghikfggcnabeaa

/- MacroValid of the model. (Made by gen_mac3.py.) -/
namespace Go.Proofs.Ytghikfggcnabeaa
open Go.RowKit
end Go.Proofs.Ytghikfggcnabeaa

/- MacroValid of the program, from its parts. (Made by gen_mac5.py.) -/
namespace Go.Proofs.Ytghikfggcnabeaa
open Go.RowKit
/-! ### Number signs -/
end Go.Proofs.Ytghikfggcnabeaa

/- Lists of texts and of numbers are compared by the laws. -/
namespace Go.Proofs.Ytghikfggcnabeaa
open Go.RowKit
end Go.Proofs.Ytghikfggcnabeaa

/- Lists of tokens are compared by the laws. -/
namespace Go.Proofs.Ytghikfggcnabeaa
open Go.RowKit
end Go.Proofs.Ytghikfggcnabeaa
