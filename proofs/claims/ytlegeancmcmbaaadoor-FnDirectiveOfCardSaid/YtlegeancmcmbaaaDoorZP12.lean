/- Texts that the proof of P stands on, in one file. -/
import Derived.Test.YtlegeancmcmbaaaDoorZP6
import Derived.Test.YtlegeancmcmbaaaDoorZP11
import Derived.Test.YtlegeancmcmbaaaDoorZP5
import Derived.Test.YtlegeancmcmbaaaDoorZP2
import Derived.Test.YtlegeancmcmbaaaDoorZP4
import Derived.Test.YtlegeancmcmbaaaDoorZP7
import Derived.Test.YtlegeancmcmbaaaDoorZP8
import Derived.Test.YtlegeancmcmbaaaDoorZP9
import Derived.Test.YtlegeancmcmbaaaDoorZP10
import Derived.Deep.Cut
set_option linter.unusedVariables false
set_option linter.unusedSimpArgs false
/- TokenBytes of the model. -/
namespace Go.Proofs.YtlegeancmcmbaaaDoor
open Go.RowKit
def OutAt (s : ByteArray) (k : Nat) (out : ByteArray) : Prop := out ++ outTo s k = outTo s 1 ∧ tClose s k = some s.size ∧ 1 ≤ k ∧ out.size ≤ k
theorem OutAt.back {s : ByteArray} {k : Nat} {out : ByteArray} (h : OutAt s k out) (hk : k + 1 < s.size) (hc : s[k].toNat = 92) : k + 3 ≤ s.size ∧ OutAt s (k + 2) (out ++ s.extract (k + 1) (k + 2)) := by
 obtain ⟨h1, h2, h3, h4⟩ := h
 rw [tClose_back (by omega) hc] at h2
 have := tClose_some h2
 refine ⟨by omega, ?_, h2, by omega, by rw [ByteArray.size_append, ByteArray.size_extract]; omega⟩
 rw [← h1, outTo_back hk hc, ByteArray.append_assoc]
theorem OutAt.byte {s : ByteArray} {k : Nat} {out : ByteArray} (h : OutAt s k out) (hk : k + 1 < s.size) (hc : ¬ s[k].toNat = 92) : OutAt s (k + 1) (out ++ s.extract k (k + 1)) := by
 obtain ⟨h1, h2, h3, h4⟩ := h
 by_cases hq : s[k].toNat = 34
 ·rw [tClose_quote (by omega) hq, Option.some.injEq] at h2; omega
 rw [tClose_else (by omega) hq hc] at h2
 refine ⟨?_, h2, by omega, by rw [ByteArray.size_append, ByteArray.size_extract]; omega⟩
 rw [← h1, outTo_else hk hc, ByteArray.append_assoc]
theorem OutAt.done {s : ByteArray} {k : Nat} {out : ByteArray} (h : OutAt s k out) (hk : s.size ≤ k + 1) : out = outTo s 1 := by
 rw [← h.1, outTo_end hk]; exact ByteArray.append_empty.symm

end Go.Proofs.YtlegeancmcmbaaaDoor

/- A token by value: its marks. -/
namespace Go.Proofs.YtlegeancmcmbaaaDoor
open Go.RowKit
end Go.Proofs.YtlegeancmcmbaaaDoor

/- TextToken of the model. (Made by gen_txt.py.) -/
namespace Go.Proofs.YtlegeancmcmbaaaDoor
open Go.RowKit
end Go.Proofs.YtlegeancmcmbaaaDoor

/- Names of two lists, of both; slices.BinarySearch of strings. -/
namespace Go.Proofs.YtlegeancmcmbaaaDoor
open Go.RowKit

/-! ### Places of names -/
/-! ### The library's -/
/-! ### Names that are in both -/
end Go.Proofs.YtlegeancmcmbaaaDoor

/- PasteTokens of both. (Made by gen_pst2.py.) -/
namespace Go.Proofs.YtlegeancmcmbaaaDoor
open Go.RowKit
end Go.Proofs.YtlegeancmcmbaaaDoor

/- What stands for a place of a body: helpers of the model. -/
namespace Go.Proofs.YtlegeancmcmbaaaDoor
open Go.RowKit

theorem tok_one1 (w : World) (cs : List Value) (x : Tok) (fp : List Nat) (h : sTok.R w cs x fp) : ∀ u ∈ cs, u.oneCell' = true := by
 obtain ⟨hv, rfl, -, -, K⟩ := h
 obtain ⟨a, c, rfl, -⟩ := open_strs K
 intro u hu
 simp only [List.mem_cons, List.not_mem_nil, or_false] at hu
 rcases hu with rfl | rfl | rfl | rfl <;> rfl

end Go.Proofs.YtlegeancmcmbaaaDoor

/- A text of tokens has nothing behind it. -/
namespace Go.Proofs.YtlegeancmcmbaaaDoor
open Go.RowKit
end Go.Proofs.YtlegeancmcmbaaaDoor

/- What stands for a place of a body (spec l10Part). (Made by gen_sub2.py.) -/
namespace Go.Proofs.YtlegeancmcmbaaaDoor
open Go.RowKit
theorem tok_at {w : World} {b off n cap : Nat} {l : List Tok} {fp : List Nat} (H : (sSlice sTok).R w [.slice (some ⟨b, off, none⟩) n cap] l fp) {j : Nat} (hj : j < l.length) :
  ∃ (aj : Option Addr) (cj : Nat) (fj : List Nat), w.cell? ⟨b, off + j * 4, none⟩ = some (.int .i64 l[j].kind) ∧ w.cell? ⟨b, off + j * 4 + 1, none⟩ = some (.string l[j].text) ∧ w.cell? ⟨b, off + j * 4 + 2, none⟩ = some (.bool l[j].spaced) ∧ w.cell? ⟨b, off + j * 4 + 3, none⟩ = some (.slice aj l[j].hidden.length cj) ∧
   sTok.R w [.int .i64 l[j].kind, .string l[j].text, .bool l[j].spaced, .slice aj l[j].hidden.length cj] l[j] fj ∧ b < w.heap.size ∧ ∀ x ∈ fj, x ∈ fp := by
 obtain ⟨a, cap', hv, hc, hm, hrow⟩ := open_rows H
 obtain ⟨b', off', fps, ha, hb, hfp, he⟩ := hrow (by omega)
 simp only [Value.slice.injEq] at hv
 obtain ⟨rfl, rfl, rfl⟩ := hv
 simp only [Option.some.injEq, Addr.mk.injEq, and_true] at ha
 obtain ⟨rfl, rfl⟩ := ha
 obtain ⟨es, hE, hR⟩ := he j hj
 have hR2 := hR
 obtain ⟨hh, rfl, -, -, K⟩ := hR2
 obtain ⟨aj, cj, rfl, -⟩ := open_strs K
 have c0 : w.cell? ⟨b, off + j * 4, none⟩ = some _ := elem_cell0 hE (by decide) rfl
 have c1 : w.cell? ⟨b, off + j * 4 + 1, none⟩ = some _ := elem_cell (j := 1) hE (by decide) rfl
 have c2 : w.cell? ⟨b, off + j * 4 + 2, none⟩ = some _ := elem_cell (j := 2) hE (by decide) rfl
 have c3 : w.cell? ⟨b, off + j * 4 + 3, none⟩ = some _ := elem_cell (j := 3) hE (by decide) rfl
 exact ⟨aj, cj, fps j, c0, c1, c2, c3, hR, hb, fun x hx => by rw [hfp]; exact List.mem_cons_of_mem _ (List.mem_flatMap.2 ⟨j, List.mem_range.2 hj, hx⟩)⟩
end Go.Proofs.YtlegeancmcmbaaaDoor
