/- No library function is called. -/
import Derived.Shelf.Lay
import Derived.Shelf.LaySoft
import Derived.Test.YtghikfggcnabeaaProg
namespace Go.Proofs
end Go.Proofs
