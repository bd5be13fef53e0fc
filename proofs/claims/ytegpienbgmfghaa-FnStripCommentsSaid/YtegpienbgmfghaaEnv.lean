/- What the library's own variable holds. -/
import Derived.Test.YtegpienbgmfghaaLib
import Derived.Test.YtegpienbgmfghaaShelf
import Derived.HandedShaped
namespace Go.Proofs.Ytegpienbgmfghaa
open Go.RowKit

def Env (w : World) : Prop := ∃ m, w.cell? ⟨0, 0, none⟩ = some (.int .i64 m)
theorem Env.of_shaped {w : World} (h : w.ShapedOpen Try.prog) : Env w := Try.laysM143.s1_3 w h
theorem Env.below {w w' : World} {B : Nat} (h : Env w) (hb : Below B w w') (hB : w.heap.size ≤ B) : Env w' := by
  obtain ⟨m, hm⟩ := h
  exact ⟨m, (hb.cell (p := ⟨0, 0, none⟩) (Nat.lt_of_lt_of_le (World.block_lt_of_cell? w _ hm) hB)).trans hm⟩

end Go.Proofs.Ytegpienbgmfghaa
