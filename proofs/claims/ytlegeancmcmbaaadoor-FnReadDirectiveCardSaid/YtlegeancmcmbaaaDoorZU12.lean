/- Texts that the proof of U stands on, in one file. -/
import Derived.Test.YtlegeancmcmbaaaDoorZU10
import Derived.Test.YtlegeancmcmbaaaDoorZU11
import Derived.Test.YtlegeancmcmbaaaDoorZU6
import Derived.Test.YtlegeancmcmbaaaDoorZU7
import Derived.Deep.Cut
import Derived.Test.YtlegeancmcmbaaaDoorZU4
import Derived.Test.YtlegeancmcmbaaaDoorZU9
import Derived.Test.YtlegeancmcmbaaaDoorZU1
set_option linter.unusedVariables false
set_option linter.unusedSimpArgs false
/- What stands for a place of a body: helpers of the model. -/
namespace Go.Proofs.YtlegeancmcmbaaaDoor
open Go.RowKit

theorem tok_one1 (w : World) (cs : List Value) (x : Tok) (fp : List Nat) (h : sTok.R w cs x fp) : ∀ u ∈ cs, u.oneCell' = true := by
 obtain ⟨hv, rfl, -, -, K⟩ := h
 obtain ⟨a, c, rfl, -⟩ := open_strs K
 intro u hu
 simp only [List.mem_cons, List.not_mem_nil, or_false] at hu
 rcases hu with rfl | rfl | rfl | rfl <;> rfl

end Go.Proofs.YtlegeancmcmbaaaDoor

/- A text of tokens has nothing behind it. -/
namespace Go.Proofs.YtlegeancmcmbaaaDoor
open Go.RowKit
end Go.Proofs.YtlegeancmcmbaaaDoor

/- What stands for a place of a body (spec l10Part). (Made by gen_sub2.py.) -/
namespace Go.Proofs.YtlegeancmcmbaaaDoor
open Go.RowKit
theorem tok_at {w : World} {b off n cap : Nat} {l : List Tok} {fp : List Nat} (H : (sSlice sTok).R w [.slice (some ⟨b, off, none⟩) n cap] l fp) {j : Nat} (hj : j < l.length) :
  ∃ (aj : Option Addr) (cj : Nat) (fj : List Nat), w.cell? ⟨b, off + j * 4, none⟩ = some (.int .i64 l[j].kind) ∧ w.cell? ⟨b, off + j * 4 + 1, none⟩ = some (.string l[j].text) ∧ w.cell? ⟨b, off + j * 4 + 2, none⟩ = some (.bool l[j].spaced) ∧ w.cell? ⟨b, off + j * 4 + 3, none⟩ = some (.slice aj l[j].hidden.length cj) ∧
   sTok.R w [.int .i64 l[j].kind, .string l[j].text, .bool l[j].spaced, .slice aj l[j].hidden.length cj] l[j] fj ∧ b < w.heap.size ∧ ∀ x ∈ fj, x ∈ fp := by
 obtain ⟨a, cap', hv, hc, hm, hrow⟩ := open_rows H
 obtain ⟨b', off', fps, ha, hb, hfp, he⟩ := hrow (by omega)
 simp only [Value.slice.injEq] at hv
 obtain ⟨rfl, rfl, rfl⟩ := hv
 simp only [Option.some.injEq, Addr.mk.injEq, and_true] at ha
 obtain ⟨rfl, rfl⟩ := ha
 obtain ⟨es, hE, hR⟩ := he j hj
 have hR2 := hR
 obtain ⟨hh, rfl, -, -, K⟩ := hR2
 obtain ⟨aj, cj, rfl, -⟩ := open_strs K
 have c0 : w.cell? ⟨b, off + j * 4, none⟩ = some _ := elem_cell0 hE (by decide) rfl
 have c1 : w.cell? ⟨b, off + j * 4 + 1, none⟩ = some _ := elem_cell (j := 1) hE (by decide) rfl
 have c2 : w.cell? ⟨b, off + j * 4 + 2, none⟩ = some _ := elem_cell (j := 2) hE (by decide) rfl
 have c3 : w.cell? ⟨b, off + j * 4 + 3, none⟩ = some _ := elem_cell (j := 3) hE (by decide) rfl
 exact ⟨aj, cj, fps j, c0, c1, c2, c3, hR, hb, fun x hx => by rw [hfp]; exact List.mem_cons_of_mem _ (List.mem_flatMap.2 ⟨j, List.mem_range.2 hj, hx⟩)⟩
end Go.Proofs.YtlegeancmcmbaaaDoor

/- Directives of the model: names of kinds, what stands behind them. (Made by gen_dir3.py.) -/
namespace Go.Proofs.YtlegeancmcmbaaaDoor
open Go.RowKit

set_option maxHeartbeats 8000000 in
set_option maxRecDepth 100000 in
theorem spec_kindT (k : Int) (w : World) : Calls Tryd.prog 11 #[.int .i64 k] w fun e w' => e = .returned (.string (kindRes k)) ∧ Below w.heap.size w w' := by
 have HI := Lib.hid (spec_l1In k 1 10 w)
 by_cases hk : 1 ≤ k ∧ k ≤ 10
 rotate_left
 ·have HF := Lib.hid (kindRes_out hk)
  rw [show (decide (1 ≤ k) && decide (k ≤ 10)) = false by simp; omega] at HI
  clear hk
  go_enter Tryd.func11, Tryd.ntmps11
  go_wp2_with fail
  refine HI.out.mono ?_
  rintro e w2 ⟨rfl, hb2⟩
  go_wp2
  go_ret
  exact ⟨by rw [HF.out] <;> rfl, hb2⟩
 rw [show (decide (1 ≤ k) && decide (k ≤ 10)) = true by simp; omega] at HI
 have hk10 : k = 1 ∨ k = 2 ∨ k = 3 ∨ k = 4 ∨ k = 5 ∨ k = 6 ∨ k = 7 ∨ k = 8 ∨ k = 9 ∨ k = 10 := by omega
 clear hk
 rcases hk10 with rfl | rfl | rfl | rfl | rfl | rfl | rfl | rfl | rfl | rfl
 ·go_enter Tryd.func11, Tryd.ntmps11
  go_wp2_with fail
  refine HI.out.mono ?_
  rintro e w2 ⟨rfl, hb2⟩
  go_wp2
  go_ret
  exact ⟨rfl, hb2.alloc hb2.size _⟩
 ·go_enter Tryd.func11, Tryd.ntmps11
  go_wp2_with fail
  refine HI.out.mono ?_
  rintro e w2 ⟨rfl, hb2⟩
  go_wp2
  go_ret
  exact ⟨rfl, hb2.alloc hb2.size _⟩
 ·go_enter Tryd.func11, Tryd.ntmps11
  go_wp2_with fail
  refine HI.out.mono ?_
  rintro e w2 ⟨rfl, hb2⟩
  go_wp2
  go_ret
  exact ⟨rfl, hb2.alloc hb2.size _⟩
 ·go_enter Tryd.func11, Tryd.ntmps11
  go_wp2_with fail
  refine HI.out.mono ?_
  rintro e w2 ⟨rfl, hb2⟩
  go_wp2
  go_ret
  exact ⟨rfl, hb2.alloc hb2.size _⟩
 ·go_enter Tryd.func11, Tryd.ntmps11
  go_wp2_with fail
  refine HI.out.mono ?_
  rintro e w2 ⟨rfl, hb2⟩
  go_wp2
  go_ret
  exact ⟨rfl, hb2.alloc hb2.size _⟩
 ·go_enter Tryd.func11, Tryd.ntmps11
  go_wp2_with fail
  refine HI.out.mono ?_
  rintro e w2 ⟨rfl, hb2⟩
  go_wp2
  go_ret
  exact ⟨rfl, hb2.alloc hb2.size _⟩
 ·go_enter Tryd.func11, Tryd.ntmps11
  go_wp2_with fail
  refine HI.out.mono ?_
  rintro e w2 ⟨rfl, hb2⟩
  go_wp2
  go_ret
  exact ⟨rfl, hb2.alloc hb2.size _⟩
 ·go_enter Tryd.func11, Tryd.ntmps11
  go_wp2_with fail
  refine HI.out.mono ?_
  rintro e w2 ⟨rfl, hb2⟩
  go_wp2
  go_ret
  exact ⟨rfl, hb2.alloc hb2.size _⟩
 ·go_enter Tryd.func11, Tryd.ntmps11
  go_wp2_with fail
  refine HI.out.mono ?_
  rintro e w2 ⟨rfl, hb2⟩
  go_wp2
  go_ret
  exact ⟨rfl, hb2.alloc hb2.size _⟩
 ·go_enter Tryd.func11, Tryd.ntmps11
  go_wp2_with fail
  refine HI.out.mono ?_
  rintro e w2 ⟨rfl, hb2⟩
  go_wp2
  go_ret
  exact ⟨rfl, hb2.alloc hb2.size _⟩
theorem spec_KindText (k : Int) (w : World) (_ : okInt k) : Calls Tryd.prog 11 #[.int .i64 k] w fun e w' => e = .returned (.string (kindRes k)) ∧ Below w.heap.size w w' := spec_kindT k w

end Go.Proofs.YtlegeancmcmbaaaDoor

/- The drawing of lines of a file. -/
namespace Go.Proofs.YtlegeancmcmbaaaDoor
open Go.RowKit

def source_lits : List ByteArray := [⟨#[35, 100, 101, 102, 105, 110, 101, 32, 97, 32, 49]⟩, ⟨#[35, 100, 101, 102, 105, 110, 101, 32, 98, 32, 97, 32, 43, 32, 50]⟩, ⟨#[35, 100, 101, 102, 105, 110, 101, 32, 102, 40, 120, 41, 32, 120, 32, 43, 32, 120]⟩, ⟨#[35, 117, 110, 100, 101, 102, 32, 97]⟩, ⟨#[35, 105, 102, 32, 97]⟩, ⟨#[35, 105, 102, 100, 101, 102, 32, 97]⟩, ⟨#[35, 105, 102, 110, 100, 101, 102, 32, 98]⟩, ⟨#[35, 101, 108, 105, 102, 32, 98, 32, 61, 61, 32, 51]⟩, ⟨#[35, 101, 108, 115, 101]⟩, ⟨#[35, 101, 110, 100, 105, 102]⟩, ⟨#[35, 101, 110, 100, 105, 102]⟩, ⟨#[35, 105, 110, 99, 108, 117, 100, 101, 32, 34, 111, 110, 101, 34]⟩, ⟨#[35, 105, 110, 99, 108, 117, 100, 101, 32, 34, 116, 119, 111, 34]⟩, ⟨#[35, 101, 114, 114, 111, 114]⟩, ⟨#[97, 32, 98]⟩, ⟨#[102, 40, 97, 41, 32, 47, 47, 32, 99]⟩, ⟨#[120, 32, 47, 42, 32, 99, 32, 42, 47, 32, 121]⟩, ⟨#[]⟩, ⟨#[35, 105, 102, 32, 100, 101, 102, 105, 110, 101, 100, 40, 97, 41, 32, 38, 38, 32, 98, 32, 62, 32, 49]⟩, ⟨#[35, 32, 100, 101, 102, 105, 110, 101, 32, 65, 66, 40, 120, 44, 121, 41, 32, 120, 32, 35, 35, 32, 121]⟩, ⟨#[65, 66, 40, 97, 44, 49, 41]⟩]
theorem source_lits_size : ∀ s ∈ source_lits, s.size ≤ 30 := by decide
set_option maxHeartbeats 2000000 in
theorem l20Source {rb p0 m : Nat} {w0 w : World} (h : jRd rb p0 w0 m w) (hp : p0 + m < 1000000) :
  Calls Tryd.prog 54 #[.pointer (some ⟨rb, 0, none⟩)] w fun e w' => ∃ s : ByteArray, e = .returned (.string s) ∧ s.size ≤ 30 ∧ jRd rb p0 w0 (m + 1) w' ∧ Kept [rb] w w' := by
 have hlt := h.lt
 go_enter Tryd.func54, Tryd.ntmps54
 go_wp2_with fail
 refine (pickJ _ (h.made _) hp (by omega) (by omega)).mono ?_
 rintro e w2 ⟨r, rfl, h0, h1, hJ, hK⟩
 obtain ⟨s, hs, hc⟩ := lit_pick source_lits 30 source_lits_size h0 (by show r < 21; omega) hlt hK
 go_wp2
 go_ret
 exact ⟨s, rfl, hs, hJ, (Kept.of_below ((Below.refl _ _).alloc (Nat.le_refl _) _)).trans hK⟩

end Go.Proofs.YtlegeancmcmbaaaDoor

/- The drawing of kinds and of lines with directives. -/
namespace Go.Proofs.YtlegeancmcmbaaaDoor
open Go.RowKit

def order_lits : List ByteArray := [⟨#[35]⟩, ⟨#[35, 32, 49]⟩, ⟨#[35, 100, 101, 102, 105, 110, 101]⟩, ⟨#[35, 100, 101, 102, 105, 110, 101, 32, 49]⟩, ⟨#[35, 117, 110, 100, 101, 102]⟩, ⟨#[35, 117, 110, 100, 101, 102, 32, 97, 32, 98]⟩, ⟨#[35, 105, 102]⟩, ⟨#[35, 105, 102, 100, 101, 102, 32, 49]⟩, ⟨#[35, 101, 108, 115, 101, 32, 120]⟩, ⟨#[35, 101, 110, 100, 105, 102, 32, 49]⟩, ⟨#[35, 105, 110, 99, 108, 117, 100, 101, 32, 97]⟩, ⟨#[35, 105, 110, 99, 108, 117, 100, 101, 32, 34, 97, 34, 32, 98]⟩, ⟨#[35, 111, 116, 104, 101, 114]⟩, ⟨#[35, 35]⟩, ⟨#[35, 101, 114, 114, 111, 114, 32, 97, 32, 98]⟩]
theorem order_lits_size : ∀ s ∈ order_lits, s.size ≤ 30 := by decide
def tail_lits : List ByteArray := [⟨#[47, 42]⟩, ⟨#[10]⟩, ⟨#[64]⟩, ⟨#[32, 47, 47, 32, 120]⟩]
theorem tail_lits_size : ∀ s ∈ tail_lits, s.size ≤ 10 := by decide

set_option maxHeartbeats 4000000 in
theorem l20Order {rb p0 m : Nat} {w0 w : World} (h : jRd rb p0 w0 m w) (hp : p0 + m < 100000) :
  Calls Tryd.prog 32 #[.pointer (some ⟨rb, 0, none⟩)] w fun e w' => ∃ s : ByteArray, e = .returned (.string s) ∧ s.size ≤ 30 ∧ jRd rb p0 w0 (m + 3) w' ∧ Kept [rb] w w' := by
 go_enter Tryd.func32, Tryd.ntmps32
 go_wp2_with fail
 refine (l20Source h (by omega)).mono ?_
 rintro e w2 ⟨s, rfl, hs, hJ2, hK2⟩
 go_wp2_with fail
 refine (oddJ _ hJ2 (by omega) (by omega) (by omega)).mono ?_
 rintro e w3 ⟨b, rfl, hJ3, hK3⟩
 have hK := hK2.trans hK3
 clear hK2 hK3 hJ2
 cases b
 ·go_wp2
  go_ret
  exact ⟨s, rfl, hs, hJ3.le (by omega), hK⟩
 ·have hlt := hJ3.lt
  go_wp2_with fail
  refine (pickJ _ (hJ3.made _) (by omega) (by omega) (by omega)).mono ?_
  rintro e w4 ⟨r, rfl, h0, h1, hJ4, hK4⟩
  obtain ⟨x, hx, hc⟩ := lit_pick order_lits 30 order_lits_size h0 (by show r < 15; omega) hlt hK4
  go_wp2
  go_ret
  exact ⟨x, rfl, hx, hJ4.le (by omega), hK.trans ((Kept.of_below ((Below.refl _ _).alloc (Nat.le_refl _) _)).trans hK4)⟩

set_option maxHeartbeats 4000000 in
theorem DrawReadDirective (v : Value) (l : List UInt8) (fp : List Nat) (w : World) (H : (sSlice sByte).R w [v] l fp) :
  Calls Tryd.prog 13 #[v] w fun e w' => ∃ s : ByteArray, e = .returned (.string s) ∧ s.size ≤ 40 ∧ Below w.heap.size w w' := by
 go_enter Tryd.func13, Tryd.ntmps13
 go_wp2_with fail
 refine (l20Open _ l fp _ H).mono ?_
 rintro e w1 ⟨rb, rfl, hrb, hR, hB⟩
 go_wp2_with fail
 refine (l20Order (jRd.begin hR) (by omega)).mono ?_
 rintro e w2 ⟨s, rfl, hs, hJ2, hK2⟩
 have hB2 := kept_below hB hK2 hrb hB.size
 go_wp2_with fail
 refine (oddJ _ hJ2 (by omega) (by omega) (by omega)).mono ?_
 rintro e w3 ⟨b, rfl, hJ3, hK3⟩
 have hB3 := kept_below hB2 hK3 hrb hB2.size
 cases b
 ·go_wp2
  go_ret
  exact ⟨s, rfl, by omega, hB3⟩
 ·have hlt := hJ3.lt
  go_wp2_with fail
  refine (pickJ _ (hJ3.made _) (by omega) (by omega) (by omega)).mono ?_
  rintro e w4 ⟨r, rfl, h0, h1, hJ4, hK4⟩
  obtain ⟨x, hx, hc⟩ := lit_pick tail_lits 10 tail_lits_size h0 (by show r < 4; omega) hlt hK4
  have hB4 := kept_below hB3 ((Kept.of_below ((Below.refl _ _).alloc (Nat.le_refl _) _)).trans hK4) hrb hB3.size
  go_wp2
  go_ret
  exact ⟨s ++ x, rfl, by rw [ByteArray.size_append]; omega, hB4⟩

set_option maxHeartbeats 4000000 in
theorem DrawKindText (v : Value) (l : List UInt8) (fp : List Nat) (w : World) (H : (sSlice sByte).R w [v] l fp) :
  Calls Tryd.prog 9 #[v] w fun e w' => ∃ k : Int, e = .returned (.int .i64 k) ∧ -1 ≤ k ∧ k ≤ 11 ∧ Below w.heap.size w w' := by
 go_enter Tryd.func9, Tryd.ntmps9
 go_wp2_with fail
 refine (l20Open _ l fp _ H).mono ?_
 rintro e w1 ⟨rb, rfl, hrb, hR, hB⟩
 go_wp2_with fail
 refine (pickJ _ (jRd.begin hR) (by omega) (by omega) (by omega)).mono ?_
 rintro e w3 ⟨r, rfl, h0, h1, hJ3, hK3⟩
 have hB3 := kept_below hB hK3 hrb hB.size
 have hwr : IntKind.i64.wrap (r - 1) = r - 1 := IntWalk.i64_in _ (by omega)
 go_wp2
 go_ret
 exact ⟨r - 1, rfl, by omega, by omega, hB3⟩

end Go.Proofs.YtlegeancmcmbaaaDoor

/- The law's fixed answer. -/
namespace Go.Proofs.YtlegeancmcmbaaaDoor
open Go.RowKit

theorem small_ok {s : ByteArray} (h : s.size ≤ 1000000) : s.size ≤ maxLen := by unfold maxLen; omega
theorem line_ab (w : World) : Calls Tryd.prog 31 #[.string ⟨#[97, 32, 98]⟩] w fun e w' => e = .returned (.bool true) ∧ w = w' := by
 have := impl_LineValid ⟨#[97, 32, 98]⟩ w (small_ok (by decide))
 rwa [show lineOk ⟨#[97, 32, 98]⟩ = true from by decide] at this
theorem line_nl (w : World) : Calls Tryd.prog 31 #[.string ⟨#[10]⟩] w fun e w' => e = .returned (.bool false) ∧ w = w' := by
 have := impl_LineValid ⟨#[10]⟩ w (small_ok (by decide))
 rwa [show lineOk ⟨#[10]⟩ = false from by decide] at this
theorem alive (w : World) : Calls Tryd.prog 12 #[] w fun e w' => e = .returned (.bool true) ∧ w = w' := by
 go_enter Tryd.func12, Tryd.ntmps12
 go_wp2_with fail
 refine (line_ab _).mono ?_
 rintro e w' ⟨rfl, rfl⟩
 go_wp2_with fail
 refine (line_nl _).mono ?_
 rintro e w' ⟨rfl, rfl⟩
 go_wp2
 go_ret
 exact ⟨rfl, rfl⟩

end Go.Proofs.YtlegeancmcmbaaaDoor

/- Directives of the model: what stands behind a name. (Made by gen_dir4.py.) -/
namespace Go.Proofs.YtlegeancmcmbaaaDoor
open Go.RowKit

theorem rest_one {r : List Tok} {k : Nat} (hk : k = 2 ∨ k = 4 ∨ k = 5) (h : r.length ≠ 1) : restOk k r = false := by
 match r, h with
 | [], _ => rcases hk with rfl | rfl | rfl <;> rfl
 | [t], h => exact absurd rfl h
 | t :: u :: r, _ => rcases hk with rfl | rfl | rfl <;> rfl
theorem rest_at {r : List Tok} {k : Nat} (hk : k = 2 ∨ k = 4 ∨ k = 5) (h : r.length = 1) : restOk k r = decide ((r[0]'(by omega)).kind = 1) := by
 match r, h with
 | [t], _ => rcases hk with rfl | rfl | rfl <;> rfl
theorem rest9_one {r : List Tok} (h : r.length ≠ 1) : restOk 9 r = false := by
 match r, h with
 | [], _ => rfl
 | [t], h => exact absurd rfl h
 | t :: u :: r, _ => rfl
theorem rest9_at {r : List Tok} (h : r.length = 1) : restOk 9 r = decide ((r[0]'(by omega)).kind = 3) := by
 match r, h with
 | [t], _ => rfl
theorem rest_some {r : List Tok} {k : Nat} (hk : k = 3 ∨ k = 6) : restOk k r = decide (0 < r.length) := by
 cases r <;> (rcases hk with rfl | rfl) <;> simp [restOk]
theorem rest_none {r : List Tok} {k : Nat} (hk : k = 7 ∨ k = 8) : restOk k r = decide (r.length = 0) := by
 cases r <;> (rcases hk with rfl | rfl) <;> simp [restOk]


set_option maxHeartbeats 8000000 in
set_option maxRecDepth 100000 in
theorem spec_rest1 (v : Value) (r : List Tok) (fp : List Nat) (w : World) (hl : r.length ≤ 1048576) (hx : ∀ k, (hk : k < r.length) → r[k].hidden.length ≤ 2000000) (H : (sSlice sTok).R w [v] r fp) :
  Calls Tryd.prog 42 #[.int .i64 1, v] w (Says (restOk 1 r) w) := by
 have HC := Lib.hid (spec_MacroOf v r fp w hl hx H)
 clear H hx hl
 unfold MOf at HC
 go_enter Tryd.func42, Tryd.ntmps42
 go_wp2_with fail
 refine HC.out.mono ?_
 rintro e w2 ⟨cs, f2, rfl, hR, -, hb2⟩
 obtain ⟨h2, h3, q2, q3, rfl, -, K2, K3, -⟩ := hR
 obtain ⟨a2, c2, rfl, -⟩ := open_strs K2
 obtain ⟨a3, c3, rfl, -⟩ := open_rows K3
 clear K2 K3 HC
 go_wp2
 go_ret
 exact ⟨rfl, hb2.alloc hb2.size _⟩

set_option maxHeartbeats 8000000 in
set_option maxRecDepth 100000 in
theorem spec_rest2 (v : Value) (r : List Tok) (fp : List Nat) (w : World) (hl : r.length ≤ 1048576) (hx : ∀ k, (hk : k < r.length) → r[k].hidden.length ≤ 2000000) (H : (sSlice sTok).R w [v] r fp) :
  Calls Tryd.prog 42 #[.int .i64 2, v] w (Says (restOk 2 r) w) := by
 have H0 := Lib.hid H
 obtain ⟨al, cl, rfl, hcl, hml, hrow⟩ := open_rows H
 unfold maxLen at hml
 clear H hx
 go_enter Tryd.func42, Tryd.ntmps42
 by_cases h1 : r.length = 1
 rotate_left
 ·have HF := Lib.hid (rest_one (k := 2) (by omega) h1)
  have e1 : ((r.length : Int) == 1) = false := by simp; omega
  clear h1 hrow
  go_wp2
  go_ret
  exact ⟨by rw [HF.out] <;> rfl, Below.refl _ _⟩
 have HF := Lib.hid (rest_at (k := 2) (by omega) h1)
 have e1 : ((r.length : Int) == 1) = true := by simp; omega
 obtain ⟨b1, o1, -, rfl, -, -, -⟩ := hrow (by omega)
 obtain ⟨xa, xc, xf, x0, x1, x2, x3, xR, hbb, -⟩ := tok_at H0.out (j := 0) (by omega)
 have i1 : (0 : Int) < (r.length : Int) := by omega
 simp only [Nat.zero_mul, Nat.add_zero] at x0 x1 x2 x3
 clear xR hrow
 by_cases hk : (r[0]'(by omega)).kind = 1
 ·have e2 : ((r[0]'(by omega)).kind == 1) = true := by simp [hk]
  have HG : Hid (restOk 2 r = true) := by show _ = _; rw [HF.out]; simp [hk]
  clear hk HF
  go_wp2
  go_ret
  exact ⟨by rw [HG.out] <;> rfl, Below.refl _ _⟩
 ·have e2 : ((r[0]'(by omega)).kind == 1) = false := by simp [hk]
  have HG : Hid (restOk 2 r = false) := by show _ = _; rw [HF.out]; simp [hk]
  clear hk HF
  go_wp2
  go_ret
  exact ⟨by rw [HG.out] <;> rfl, Below.refl _ _⟩

set_option maxHeartbeats 8000000 in
set_option maxRecDepth 100000 in
theorem spec_rest3 (v : Value) (r : List Tok) (fp : List Nat) (w : World) (hl : r.length ≤ 1048576) (hx : ∀ k, (hk : k < r.length) → r[k].hidden.length ≤ 2000000) (H : (sSlice sTok).R w [v] r fp) :
  Calls Tryd.prog 42 #[.int .i64 3, v] w (Says (restOk 3 r) w) := by
 obtain ⟨al, cl, rfl, hcl, hml, -⟩ := open_rows H
 unfold maxLen at hml
 have HF := Lib.hid (rest_some (r := r) (k := 3) (by omega))
 clear H hx
 go_enter Tryd.func42, Tryd.ntmps42
 by_cases h1 : 0 < r.length
 ·have e1 : (0 : Int) < (r.length : Int) := by omega
  have HG : Hid (restOk 3 r = true) := by show _ = _; rw [HF.out]; simp [h1]
  have e2 : decide ((0 : Int) < (r.length : Int)) = true := decide_eq_true e1
  clear HF
  go_wp2
  go_ret
  exact ⟨by rw [HG.out] <;> first | rfl | (simp [h1]; done) | (simp; omega), Below.refl _ _⟩
 ·have e1 : ¬ (0 : Int) < (r.length : Int) := by omega
  have HG : Hid (restOk 3 r = false) := by show _ = _; rw [HF.out]; exact decide_eq_false h1
  have e2 : decide ((0 : Int) < (r.length : Int)) = false := decide_eq_false e1
  clear HF
  go_wp2
  go_ret
  exact ⟨by rw [HG.out] <;> first | rfl | (simp [h1]; done) | (simp; omega), Below.refl _ _⟩

set_option maxHeartbeats 8000000 in
set_option maxRecDepth 100000 in
theorem spec_rest4 (v : Value) (r : List Tok) (fp : List Nat) (w : World) (hl : r.length ≤ 1048576) (hx : ∀ k, (hk : k < r.length) → r[k].hidden.length ≤ 2000000) (H : (sSlice sTok).R w [v] r fp) :
  Calls Tryd.prog 42 #[.int .i64 4, v] w (Says (restOk 4 r) w) := by
 have H0 := Lib.hid H
 obtain ⟨al, cl, rfl, hcl, hml, hrow⟩ := open_rows H
 unfold maxLen at hml
 clear H hx
 go_enter Tryd.func42, Tryd.ntmps42
 by_cases h1 : r.length = 1
 rotate_left
 ·have HF := Lib.hid (rest_one (k := 4) (by omega) h1)
  have e1 : ((r.length : Int) == 1) = false := by simp; omega
  clear h1 hrow
  go_wp2
  go_ret
  exact ⟨by rw [HF.out] <;> rfl, Below.refl _ _⟩
 have HF := Lib.hid (rest_at (k := 4) (by omega) h1)
 have e1 : ((r.length : Int) == 1) = true := by simp; omega
 obtain ⟨b1, o1, -, rfl, -, -, -⟩ := hrow (by omega)
 obtain ⟨xa, xc, xf, x0, x1, x2, x3, xR, hbb, -⟩ := tok_at H0.out (j := 0) (by omega)
 have i1 : (0 : Int) < (r.length : Int) := by omega
 simp only [Nat.zero_mul, Nat.add_zero] at x0 x1 x2 x3
 clear xR hrow
 by_cases hk : (r[0]'(by omega)).kind = 1
 ·have e2 : ((r[0]'(by omega)).kind == 1) = true := by simp [hk]
  have HG : Hid (restOk 4 r = true) := by show _ = _; rw [HF.out]; simp [hk]
  clear hk HF
  go_wp2
  go_ret
  exact ⟨by rw [HG.out] <;> rfl, Below.refl _ _⟩
 ·have e2 : ((r[0]'(by omega)).kind == 1) = false := by simp [hk]
  have HG : Hid (restOk 4 r = false) := by show _ = _; rw [HF.out]; simp [hk]
  clear hk HF
  go_wp2
  go_ret
  exact ⟨by rw [HG.out] <;> rfl, Below.refl _ _⟩

set_option maxHeartbeats 8000000 in
set_option maxRecDepth 100000 in
theorem spec_rest5 (v : Value) (r : List Tok) (fp : List Nat) (w : World) (hl : r.length ≤ 1048576) (hx : ∀ k, (hk : k < r.length) → r[k].hidden.length ≤ 2000000) (H : (sSlice sTok).R w [v] r fp) :
  Calls Tryd.prog 42 #[.int .i64 5, v] w (Says (restOk 5 r) w) := by
 have H0 := Lib.hid H
 obtain ⟨al, cl, rfl, hcl, hml, hrow⟩ := open_rows H
 unfold maxLen at hml
 clear H hx
 go_enter Tryd.func42, Tryd.ntmps42
 by_cases h1 : r.length = 1
 rotate_left
 ·have HF := Lib.hid (rest_one (k := 5) (by omega) h1)
  have e1 : ((r.length : Int) == 1) = false := by simp; omega
  clear h1 hrow
  go_wp2
  go_ret
  exact ⟨by rw [HF.out] <;> rfl, Below.refl _ _⟩
 have HF := Lib.hid (rest_at (k := 5) (by omega) h1)
 have e1 : ((r.length : Int) == 1) = true := by simp; omega
 obtain ⟨b1, o1, -, rfl, -, -, -⟩ := hrow (by omega)
 obtain ⟨xa, xc, xf, x0, x1, x2, x3, xR, hbb, -⟩ := tok_at H0.out (j := 0) (by omega)
 have i1 : (0 : Int) < (r.length : Int) := by omega
 simp only [Nat.zero_mul, Nat.add_zero] at x0 x1 x2 x3
 clear xR hrow
 by_cases hk : (r[0]'(by omega)).kind = 1
 ·have e2 : ((r[0]'(by omega)).kind == 1) = true := by simp [hk]
  have HG : Hid (restOk 5 r = true) := by show _ = _; rw [HF.out]; simp [hk]
  clear hk HF
  go_wp2
  go_ret
  exact ⟨by rw [HG.out] <;> rfl, Below.refl _ _⟩
 ·have e2 : ((r[0]'(by omega)).kind == 1) = false := by simp [hk]
  have HG : Hid (restOk 5 r = false) := by show _ = _; rw [HF.out]; simp [hk]
  clear hk HF
  go_wp2
  go_ret
  exact ⟨by rw [HG.out] <;> rfl, Below.refl _ _⟩

set_option maxHeartbeats 8000000 in
set_option maxRecDepth 100000 in
theorem spec_rest6 (v : Value) (r : List Tok) (fp : List Nat) (w : World) (hl : r.length ≤ 1048576) (hx : ∀ k, (hk : k < r.length) → r[k].hidden.length ≤ 2000000) (H : (sSlice sTok).R w [v] r fp) :
  Calls Tryd.prog 42 #[.int .i64 6, v] w (Says (restOk 6 r) w) := by
 obtain ⟨al, cl, rfl, hcl, hml, -⟩ := open_rows H
 unfold maxLen at hml
 have HF := Lib.hid (rest_some (r := r) (k := 6) (by omega))
 clear H hx
 go_enter Tryd.func42, Tryd.ntmps42
 by_cases h1 : 0 < r.length
 ·have e1 : (0 : Int) < (r.length : Int) := by omega
  have HG : Hid (restOk 6 r = true) := by show _ = _; rw [HF.out]; simp [h1]
  have e2 : decide ((0 : Int) < (r.length : Int)) = true := decide_eq_true e1
  clear HF
  go_wp2
  go_ret
  exact ⟨by rw [HG.out] <;> first | rfl | (simp [h1]; done) | (simp; omega), Below.refl _ _⟩
 ·have e1 : ¬ (0 : Int) < (r.length : Int) := by omega
  have HG : Hid (restOk 6 r = false) := by show _ = _; rw [HF.out]; exact decide_eq_false h1
  have e2 : decide ((0 : Int) < (r.length : Int)) = false := decide_eq_false e1
  clear HF
  go_wp2
  go_ret
  exact ⟨by rw [HG.out] <;> first | rfl | (simp [h1]; done) | (simp; omega), Below.refl _ _⟩

set_option maxHeartbeats 8000000 in
set_option maxRecDepth 100000 in
theorem spec_rest7 (v : Value) (r : List Tok) (fp : List Nat) (w : World) (hl : r.length ≤ 1048576) (hx : ∀ k, (hk : k < r.length) → r[k].hidden.length ≤ 2000000) (H : (sSlice sTok).R w [v] r fp) :
  Calls Tryd.prog 42 #[.int .i64 7, v] w (Says (restOk 7 r) w) := by
 obtain ⟨al, cl, rfl, hcl, hml, -⟩ := open_rows H
 unfold maxLen at hml
 have HF := Lib.hid (rest_none (r := r) (k := 7) (by omega))
 clear H hx
 go_enter Tryd.func42, Tryd.ntmps42
 by_cases h1 : r.length = 0
 ·have e1 : ((r.length : Int) == 0) = true := by rw [h1]; rfl
  have HG : Hid (restOk 7 r = true) := by show _ = _; rw [HF.out]; exact decide_eq_true h1
  clear HF h1
  go_wp2
  go_ret
  exact ⟨by rw [HG.out] <;> rfl, Below.refl _ _⟩
 ·have e1 : ((r.length : Int) == 0) = false := by
   cases e : ((r.length : Int) == 0)
   ·rfl
   ·rw [beq_iff_eq] at e; omega
  have HG : Hid (restOk 7 r = false) := by show _ = _; rw [HF.out]; exact decide_eq_false h1
  clear HF h1
  go_wp2
  go_ret
  exact ⟨by rw [HG.out] <;> rfl, Below.refl _ _⟩

set_option maxHeartbeats 8000000 in
set_option maxRecDepth 100000 in
theorem spec_rest8 (v : Value) (r : List Tok) (fp : List Nat) (w : World) (hl : r.length ≤ 1048576) (hx : ∀ k, (hk : k < r.length) → r[k].hidden.length ≤ 2000000) (H : (sSlice sTok).R w [v] r fp) :
  Calls Tryd.prog 42 #[.int .i64 8, v] w (Says (restOk 8 r) w) := by
 obtain ⟨al, cl, rfl, hcl, hml, -⟩ := open_rows H
 unfold maxLen at hml
 have HF := Lib.hid (rest_none (r := r) (k := 8) (by omega))
 clear H hx
 go_enter Tryd.func42, Tryd.ntmps42
 by_cases h1 : r.length = 0
 ·have e1 : ((r.length : Int) == 0) = true := by rw [h1]; rfl
  have HG : Hid (restOk 8 r = true) := by show _ = _; rw [HF.out]; exact decide_eq_true h1
  clear HF h1
  go_wp2
  go_ret
  exact ⟨by rw [HG.out] <;> rfl, Below.refl _ _⟩
 ·have e1 : ((r.length : Int) == 0) = false := by
   cases e : ((r.length : Int) == 0)
   ·rfl
   ·rw [beq_iff_eq] at e; omega
  have HG : Hid (restOk 8 r = false) := by show _ = _; rw [HF.out]; exact decide_eq_false h1
  clear HF h1
  go_wp2
  go_ret
  exact ⟨by rw [HG.out] <;> rfl, Below.refl _ _⟩

set_option maxHeartbeats 8000000 in
set_option maxRecDepth 100000 in
theorem spec_rest9 (v : Value) (r : List Tok) (fp : List Nat) (w : World) (hl : r.length ≤ 1048576) (hx : ∀ k, (hk : k < r.length) → r[k].hidden.length ≤ 2000000) (H : (sSlice sTok).R w [v] r fp) :
  Calls Tryd.prog 42 #[.int .i64 9, v] w (Says (restOk 9 r) w) := by
 have H0 := Lib.hid H
 obtain ⟨al, cl, rfl, hcl, hml, hrow⟩ := open_rows H
 unfold maxLen at hml
 clear H hx
 go_enter Tryd.func42, Tryd.ntmps42
 by_cases h1 : r.length = 1
 rotate_left
 ·have HF := Lib.hid (rest9_one h1)
  have e1 : ((r.length : Int) == 1) = false := by simp; omega
  clear h1 hrow
  go_wp2
  go_ret
  exact ⟨by rw [HF.out] <;> rfl, Below.refl _ _⟩
 have HF := Lib.hid (rest9_at h1)
 have e1 : ((r.length : Int) == 1) = true := by simp; omega
 obtain ⟨b1, o1, -, rfl, -, -, -⟩ := hrow (by omega)
 obtain ⟨xa, xc, xf, x0, x1, x2, x3, xR, hbb, -⟩ := tok_at H0.out (j := 0) (by omega)
 have i1 : (0 : Int) < (r.length : Int) := by omega
 simp only [Nat.zero_mul, Nat.add_zero] at x0 x1 x2 x3
 clear xR hrow
 by_cases hk : (r[0]'(by omega)).kind = 3
 ·have e2 : ((r[0]'(by omega)).kind == 3) = true := by simp [hk]
  have HG : Hid (restOk 9 r = true) := by show _ = _; rw [HF.out]; simp [hk]
  clear hk HF
  go_wp2
  go_ret
  exact ⟨by rw [HG.out] <;> rfl, Below.refl _ _⟩
 ·have e2 : ((r[0]'(by omega)).kind == 3) = false := by simp [hk]
  have HG : Hid (restOk 9 r = false) := by show _ = _; rw [HF.out]; simp [hk]
  clear hk HF
  go_wp2
  go_ret
  exact ⟨by rw [HG.out] <;> rfl, Below.refl _ _⟩

set_option maxHeartbeats 8000000 in
set_option maxRecDepth 100000 in
theorem spec_rest10 (v : Value) (r : List Tok) (fp : List Nat) (w : World) (hl : r.length ≤ 1048576) (hx : ∀ k, (hk : k < r.length) → r[k].hidden.length ≤ 2000000) (H : (sSlice sTok).R w [v] r fp) :
  Calls Tryd.prog 42 #[.int .i64 10, v] w (Says (restOk 10 r) w) := by
 obtain ⟨al, cl, rfl, hcl, hml, -⟩ := open_rows H
 clear H hx
 go_enter Tryd.func42, Tryd.ntmps42
 go_wp2
 go_ret
 exact ⟨rfl, Below.refl _ _⟩

theorem spec_l14Rest {k : Nat} (h1 : 1 ≤ k) (h10 : k ≤ 10) (v : Value) (r : List Tok) (fp : List Nat) (w : World) (hl : r.length ≤ 1048576) (hx : ∀ k, (hk : k < r.length) → r[k].hidden.length ≤ 2000000) (H : (sSlice sTok).R w [v] r fp) :
  Calls Tryd.prog 42 #[.int .i64 k, v] w (Says (restOk k r) w) := by
 have hk : k = 1 ∨ k = 2 ∨ k = 3 ∨ k = 4 ∨ k = 5 ∨ k = 6 ∨ k = 7 ∨ k = 8 ∨ k = 9 ∨ k = 10 := by omega
 rcases hk with rfl | rfl | rfl | rfl | rfl | rfl | rfl | rfl | rfl | rfl
 ·exact spec_rest1 v r fp w hl hx H
 ·exact spec_rest2 v r fp w hl hx H
 ·exact spec_rest3 v r fp w hl hx H
 ·exact spec_rest4 v r fp w hl hx H
 ·exact spec_rest5 v r fp w hl hx H
 ·exact spec_rest6 v r fp w hl hx H
 ·exact spec_rest7 v r fp w hl hx H
 ·exact spec_rest8 v r fp w hl hx H
 ·exact spec_rest9 v r fp w hl hx H
 ·exact spec_rest10 v r fp w hl hx H

end Go.Proofs.YtlegeancmcmbaaaDoor
