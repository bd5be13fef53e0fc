/- Texts that the proof of U stands on, in one file. -/
import Derived.Test.YtipfpppcbmpjiaaZU4
import Derived.Test.YtipfpppcbmpjiaaZU2
import Derived.Test.YtipfpppcbmpjiaaZU11
import Derived.Test.YtipfpppcbmpjiaaZU8
import Derived.Test.YtipfpppcbmpjiaaZU9
import Derived.Test.YtipfpppcbmpjiaaZU3
import Derived.Test.YtipfpppcbmpjiaaZU7
import Derived.Test.YtipfpppcbmpjiaaZU5
import Derived.Test.YtipfpppcbmpjiaaZU10
import Derived.Deep.Cut
import Derived.Deep.CutRange
set_option linter.unusedVariables false
set_option linter.unusedSimpArgs false
/- A token by value: its marks. -/
namespace Go.Proofs.Ytipfpppcbmpjiaa
open Go.RowKit
end Go.Proofs.Ytipfpppcbmpjiaa

/- TextToken of the model. (Made by gen_txt.py.) -/
namespace Go.Proofs.Ytipfpppcbmpjiaa
open Go.RowKit
end Go.Proofs.Ytipfpppcbmpjiaa

/- Names of two lists, of both; slices.BinarySearch of strings. -/
namespace Go.Proofs.Ytipfpppcbmpjiaa
open Go.RowKit

/-! ### Places of names -/
/-! ### The library's -/
/-! ### Names that are in both -/
end Go.Proofs.Ytipfpppcbmpjiaa

/- PasteTokens of both. (Made by gen_pst2.py.) -/
namespace Go.Proofs.Ytipfpppcbmpjiaa
open Go.RowKit
theorem tok_hidOk {t : Tok} (h : tokOk t = true) : hidOk t.hidden = true := by unfold tokOk at h; exact (Bool.and_eq_true_iff.1 h).2
end Go.Proofs.Ytipfpppcbmpjiaa

/- What stands for a place of a body: helpers of the model. -/
namespace Go.Proofs.Ytipfpppcbmpjiaa
open Go.RowKit

theorem tok_one1 (w : World) (cs : List Value) (x : Tok) (fp : List Nat) (h : sTok.R w cs x fp) : ∀ u ∈ cs, u.oneCell' = true := by
  obtain ⟨hv, rfl, -, -, K⟩ := h
  obtain ⟨a, c, rfl, -⟩ := open_strs K
  intro u hu
  simp only [List.mem_cons, List.not_mem_nil, or_false] at hu
  rcases hu with rfl | rfl | rfl | rfl <;> rfl

end Go.Proofs.Ytipfpppcbmpjiaa

/- A text of tokens has nothing behind it. -/
namespace Go.Proofs.Ytipfpppcbmpjiaa
open Go.RowKit
end Go.Proofs.Ytipfpppcbmpjiaa

/- What stands for a place of a body (spec l10Part). (Made by gen_sub2.py.) -/
namespace Go.Proofs.Ytipfpppcbmpjiaa
open Go.RowKit
/-- A token of a list: its cells. -/
theorem tok_at {w : World} {b off n cap : Nat} {l : List Tok} {fp : List Nat} (H : (sSlice sTok).R w [.slice (some ⟨b, off, none⟩) n cap] l fp) {j : Nat} (hj : j < l.length) :
    ∃ (aj : Option Addr) (cj : Nat) (fj : List Nat), w.cell? ⟨b, off + j * 4, none⟩ = some (.int .i64 l[j].kind) ∧ w.cell? ⟨b, off + j * 4 + 1, none⟩ = some (.string l[j].text) ∧ w.cell? ⟨b, off + j * 4 + 2, none⟩ = some (.bool l[j].spaced) ∧ w.cell? ⟨b, off + j * 4 + 3, none⟩ = some (.slice aj l[j].hidden.length cj) ∧
      sTok.R w [.int .i64 l[j].kind, .string l[j].text, .bool l[j].spaced, .slice aj l[j].hidden.length cj] l[j] fj ∧ b < w.heap.size ∧ ∀ x ∈ fj, x ∈ fp := by
  obtain ⟨a, cap', hv, hc, hm, hrow⟩ := open_rows H
  obtain ⟨b', off', fps, ha, hb, hfp, he⟩ := hrow (by omega)
  simp only [Value.slice.injEq] at hv
  obtain ⟨rfl, rfl, rfl⟩ := hv
  simp only [Option.some.injEq, Addr.mk.injEq, and_true] at ha
  obtain ⟨rfl, rfl⟩ := ha
  obtain ⟨es, hE, hR⟩ := he j hj
  have hR2 := hR
  obtain ⟨hh, rfl, -, -, K⟩ := hR2
  obtain ⟨aj, cj, rfl, -⟩ := open_strs K
  have c0 : w.cell? ⟨b, off + j * 4, none⟩ = some _ := elem_cell0 hE (by decide) rfl
  have c1 : w.cell? ⟨b, off + j * 4 + 1, none⟩ = some _ := elem_cell (j := 1) hE (by decide) rfl
  have c2 : w.cell? ⟨b, off + j * 4 + 2, none⟩ = some _ := elem_cell (j := 2) hE (by decide) rfl
  have c3 : w.cell? ⟨b, off + j * 4 + 3, none⟩ = some _ := elem_cell (j := 3) hE (by decide) rfl
  exact ⟨aj, cj, fps j, c0, c1, c2, c3, hR, hb, fun x hx => by rw [hfp]; exact List.mem_cons_of_mem _ (List.mem_flatMap.2 ⟨j, List.mem_range.2 hj, hx⟩)⟩
end Go.Proofs.Ytipfpppcbmpjiaa

/- Arguments put into a body (spec l10Body). (Made by gen_sub3.py.) -/
namespace Go.Proofs.Ytipfpppcbmpjiaa
open Go.RowKit
end Go.Proofs.Ytipfpppcbmpjiaa
