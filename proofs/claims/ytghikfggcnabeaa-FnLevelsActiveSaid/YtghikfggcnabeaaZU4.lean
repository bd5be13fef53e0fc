/- Texts that the proof of U stands on, in one file. -/
import Derived.Test.YtghikfggcnabeaaZU3
import Derived.Test.YtghikfggcnabeaaZU2
import Derived.Laws.Cover1
import Derived.Test.YtghikfggcnabeaaZU1
import Derived.IntWalk
import Derived.Laws.Strings2
import Derived.Laws.Concat
import Derived.Test.YtghikfggcnabeaaShelf
import Derived.Deep.QuietTactic
import Derived.BigQuiet
set_option linter.unusedVariables false
set_option linter.unusedSimpArgs false
/- Tokens as arguments of a law: their size, their copy. -/
namespace Go.Proofs.Ytghikfggcnabeaa
open Go.RowKit
section
variable {H : Type} {enc : TypeId × Value → H} {w : World} {base : Nat} {spare : Nat → Bool} {held : Bool}
end
end Go.Proofs.Ytghikfggcnabeaa

/- Levels as arguments of a law: their size. -/
namespace Go.Proofs.Ytghikfggcnabeaa
open Go.RowKit

theorem wtLevelS_len (l : List DLevel) : wtLevelS l = l.length := by
 have : ∀ l : List DLevel, (l.map wtLevel).sum = 0 := fun l => by induction l with
  | nil => rfl
  | cons x r ih => rw [List.map_cons, List.sum_cons, ih]; rfl
 unfold wtLevelS; rw [this]; rfl
theorem cntLevelS_eq (l : List DLevel) : cntLevelS l = 3 * l.length := by
 unfold cntLevelS cntAll
 induction l with
 | nil => rfl
 | cons x r ih => rw [List.map_cons, List.sum_cons, ih, List.length_cons]; show 3 + _ = _; omega
theorem cntLevelS_le (l : List DLevel) : cntLevelS l ≤ 3 * wtLevelS l := by rw [cntLevelS_eq, wtLevelS_len]; exact Nat.le_refl _
set_option maxHeartbeats 2000000 in
theorem szLevelS (v : Value) (l : List DLevel) (fp : List Nat) (w : World) (B : Int) (h0 : 0 ≤ B) (h1 : B ≤ 1048576) (H : (sSlice sLevel).R w [v] l fp) :
  Calls Try.prog 15 #[v, .int .i64 B] w fun e w' => ∃ r : Int, e = .returned (.int .i64 r) ∧ SzR B r (wtLevelS l) ∧ Below w.heap.size w w' := by
 obtain ⟨a, cap, rfl, hc, hm, hrow⟩ := open_rows H
 unfold maxLen at hm
 clear H hrow
 have hwr : IntKind.i64.wrap (B - (l.length : Int)) = B - (l.length : Int) := IntWalk.i64_in _ (by omega)
 by_cases hl : B < l.length
 ·have HN : Hid (SzR B (-1) (wtLevelS l)) := SzR.no (by rw [wtLevelS_len]; omega)
  have hlt : B - (l.length : Int) < 0 := by omega
  go_enter Try.func15, Try.ntmps15
  go_wp2
  go_ret
  exact ⟨-1, rfl, HN.out, Below.refl _ _⟩
 ·have HN : Hid (SzR B (B - (l.length : Int)) (wtLevelS l)) := SzR.yes (by rw [wtLevelS_len]; omega) (by rw [wtLevelS_len])
  have hlt : ¬ B - (l.length : Int) < 0 := by omega
  go_enter Try.func15, Try.ntmps15
  go_wp2
  go_ret
  exact ⟨_, rfl, HN.out, Below.refl _ _⟩

end Go.Proofs.Ytghikfggcnabeaa

/- Slices of tokens as arguments of a law: their size, their copy. -/
namespace Go.Proofs.Ytghikfggcnabeaa
open Go.RowKit
end Go.Proofs.Ytghikfggcnabeaa

/- TokenValid: no program. -/
namespace Go.Proofs.Ytghikfggcnabeaa
open Go.RowKit
end Go.Proofs.Ytghikfggcnabeaa

/- StripComments of the model: the places behind comments and texts, and the whole. -/
namespace Go.Proofs.Ytghikfggcnabeaa
open Go.RowKit
end Go.Proofs.Ytghikfggcnabeaa

/- The program's tokens: one at a place. -/
namespace Go.Proofs.Ytghikfggcnabeaa
open Go.RowKit
end Go.Proofs.Ytghikfggcnabeaa

/- TokensOf of the program. -/
namespace Go.Proofs.Ytghikfggcnabeaa
open Go.RowKit
end Go.Proofs.Ytghikfggcnabeaa

/- The model's tokens. -/
namespace Go.Proofs.Ytghikfggcnabeaa
open Go.RowKit
def NoMark (c : UInt8) (k : Nat) : Prop := ∀ j, (h : j < marks1.length) → j < k → marks1[j] ≠ c
theorem NoMark.none {c : UInt8} (h : NoMark c 23) : ¬ c ∈ marks1 := by
 intro hc
 obtain ⟨i, hi, rfl⟩ := List.getElem_of_mem hc
 exact h i hi hi rfl

end Go.Proofs.Ytghikfggcnabeaa
