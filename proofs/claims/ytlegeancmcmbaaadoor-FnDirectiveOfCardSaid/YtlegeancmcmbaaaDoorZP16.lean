/- Texts that the proof of P stands on, in one file. -/
import Derived.Test.YtlegeancmcmbaaaDoorZP15
import Derived.Test.YtlegeancmcmbaaaDoorZP11
import Derived.Deep.RegionLaw
import Derived.Lib.SliceRun
import Derived.Test.YtlegeancmcmbaaaDoorZP10
import Derived.Test.YtlegeancmcmbaaaDoorZP12
import Derived.Test.YtlegeancmcmbaaaDoorZP14
import Derived.Test.YtlegeancmcmbaaaDoorZP13
import Derived.Test.YtlegeancmcmbaaaDoorZP4
import Derived.Test.YtlegeancmcmbaaaDoorZP3
import Derived.Test.YtlegeancmcmbaaaDoorZP2
import Derived.Test.YtlegeancmcmbaaaDoorZP5
import Derived.Deep.RegionHeld3
import Derived.Deep.QuietTactic
import Derived.BigQuiet
import Derived.Outline
import Derived.StillTailTactics
import Derived.Deep.Fields
import Derived.ChangeSame
set_option linter.unusedVariables false
set_option linter.unusedSimpArgs false
/- A table's copy, of the program. -/
namespace Go.Proofs.YtlegeancmcmbaaaDoor
open Go.RowKit
end Go.Proofs.YtlegeancmcmbaaaDoor

/- slices.Delete of one macro, of a row of the call's own. -/
namespace Go.Proofs.YtlegeancmcmbaaaDoor
open Go.RowKit
end Go.Proofs.YtlegeancmcmbaaaDoor

/- Undefine of the program. -/
namespace Go.Proofs.YtlegeancmcmbaaaDoor
open Go.RowKit
/-! ### As the exact law calls them -/
end Go.Proofs.YtlegeancmcmbaaaDoor

/- ReplaceDefined of the model, as the exact law calls it: under a weight; the marks of what comes out. -/
namespace Go.Proofs.YtlegeancmcmbaaaDoor
open Go.RowKit
end Go.Proofs.YtlegeancmcmbaaaDoor

/- ReplaceDefined of the program. -/
namespace Go.Proofs.YtlegeancmcmbaaaDoor
open Go.RowKit
end Go.Proofs.YtlegeancmcmbaaaDoor

/- Directives of the program: what stands behind a name; tokens in memory of the call's own. (Made by gen_doia.py.) -/
namespace Go.Proofs.YtlegeancmcmbaaaDoor
open Go.RowKit

def onlyIs (c : Int) (l : List Tok) : Bool := match l with | [t] => decide (t.kind = c) | _ => false
theorem only_no {c : Int} {r : List Tok} (h : r.length ≠ 1) : onlyIs c r = false := by
 match r, h with
 | [], _ => rfl
 | [t], h => exact absurd rfl h
 | t :: u :: r, _ => rfl
theorem only_at {c : Int} {r : List Tok} (h : r.length = 1) : onlyIs c r = decide ((r[0]'(by omega)).kind = c) := by
 match r, h with
 | [t], _ => rfl

set_option maxHeartbeats 8000000 in
set_option maxRecDepth 100000 in
theorem impl_isOnly (v : Value) (r : List Tok) (fp : List Nat) (c : Int) (w : World) (hl : r.length ≤ 1048576) (H : (sSlice sTok).R w [v] r fp) :
  Calls Tryd.prog 70 #[v, .int .i64 c] w (Says (onlyIs c r) w) := by
 have H0 := Lib.hid H
 obtain ⟨al, cl, rfl, hcl, hml, hrow⟩ := open_rows H
 unfold maxLen at hml
 clear H
 go_enter Tryd.func70, Tryd.ntmps70
 by_cases h1 : r.length = 1
 rotate_left
 ·have HF := Lib.hid (only_no (c := c) h1)
  have e1 : ((r.length : Int) == 1) = false := by simp; omega
  clear h1 hrow
  go_wp2
  go_ret
  exact ⟨by rw [HF.out] <;> rfl, Below.refl _ _⟩
 have HF := Lib.hid (only_at (c := c) h1)
 have e1 : ((r.length : Int) == 1) = true := by simp; omega
 obtain ⟨b1, o1, -, rfl, -, -, -⟩ := hrow (by omega)
 obtain ⟨xa, xc, xf, x0, x1, x2, x3, xR, hbb, -⟩ := tok_at H0.out (j := 0) (by omega)
 have i1 : (0 : Int) < (r.length : Int) := by omega
 simp only [Nat.zero_mul, Nat.add_zero] at x0 x1 x2 x3
 clear xR hrow
 by_cases hk : (r[0]'(by omega)).kind = c
 ·have e2 : ((r[0]'(by omega)).kind == c) = true := by simp [hk]
  have HG : Hid (onlyIs c r = true) := by show _ = _; rw [HF.out]; simp [hk]
  clear hk HF
  go_wp2
  go_ret
  exact ⟨by rw [HG.out] <;> rfl, Below.refl _ _⟩
 ·have e2 : ((r[0]'(by omega)).kind == c) = false := by simp [hk]
  have HG : Hid (onlyIs c r = false) := by show _ = _; rw [HF.out]; simp [hk]
  clear hk HF
  go_wp2
  go_ret
  exact ⟨by rw [HG.out] <;> rfl, Below.refl _ _⟩

def fitsR (k : Nat) (r : List Tok) : Bool := decide (k ≠ 0) && restOk k r
theorem fits_only1 {k : Nat} (h : k = 2 ∨ k = 4 ∨ k = 5) (r : List Tok) : fitsR k r = onlyIs 1 r := by
 rcases h with rfl | rfl | rfl <;> rfl
theorem fits_only3 (r : List Tok) : fitsR 9 r = onlyIs 3 r := rfl
theorem fits_some {k : Nat} (h : k = 3 ∨ k = 6) (r : List Tok) : fitsR k r = decide (0 < r.length) := by
 rw [← rest_some h]; rcases h with rfl | rfl <;> rfl
theorem fits_none {k : Nat} (h : k = 7 ∨ k = 8) (r : List Tok) : fitsR k r = decide (r.length = 0) := by
 rw [← rest_none h]; rcases h with rfl | rfl <;> rfl


set_option maxHeartbeats 8000000 in
set_option maxRecDepth 100000 in
theorem impl_fits0 (v : Value) (r : List Tok) (fp : List Nat) (w : World) (hl : r.length ≤ 1048576) (H : (sSlice sTok).R w [v] r fp) :
  Calls Tryd.prog 46 #[.int .i64 0, v] w (Says (fitsR 0 r) w) := by
 obtain ⟨al, cl, rfl, hcl, hml, -⟩ := open_rows H
 clear H
 go_enter Tryd.func46, Tryd.ntmps46
 go_wp2
 go_ret
 exact ⟨rfl, Below.refl _ _⟩

set_option maxHeartbeats 8000000 in
set_option maxRecDepth 100000 in
theorem impl_fits1 (v : Value) (r : List Tok) (fp : List Nat) (w : World) (hl : r.length ≤ 1048576) (H : (sSlice sTok).R w [v] r fp) :
  Calls Tryd.prog 46 #[.int .i64 1, v] w (Says (fitsR 1 r) w) := by
 have HC := Lib.hid (impl_MacroOf v r fp w hl H)
 clear H hl
 unfold MOf at HC
 go_enter Tryd.func46, Tryd.ntmps46
 go_wp2_with fail
 refine HC.out.mono ?_
 rintro e w2 ⟨cs, f2, rfl, hR, -, hb2⟩
 obtain ⟨h2, h3, q2, q3, rfl, -, K2, K3, -⟩ := hR
 obtain ⟨a2, c2, rfl, -⟩ := open_strs K2
 obtain ⟨a3, c3, rfl, -⟩ := open_rows K3
 clear K2 K3 HC
 go_wp2
 go_ret
 exact ⟨rfl, hb2.alloc hb2.size _⟩

set_option maxHeartbeats 8000000 in
set_option maxRecDepth 100000 in
theorem impl_fits2 (v : Value) (r : List Tok) (fp : List Nat) (w : World) (hl : r.length ≤ 1048576) (H : (sSlice sTok).R w [v] r fp) :
  Calls Tryd.prog 46 #[.int .i64 2, v] w (Says (fitsR 2 r) w) := by
 have HC := Lib.hid (impl_isOnly v r fp 1 w hl H)
 have HF := Lib.hid (fits_only1 (k := 2) (by omega) r)
 generalize onlyIs 1 r = b at HC HF
 clear H hl
 go_enter Tryd.func46, Tryd.ntmps46
 go_wp2_with fail
 refine HC.out.mono ?_
 rintro e w2 ⟨rfl, hb2⟩
 go_wp2
 go_ret
 exact ⟨by rw [HF.out] <;> rfl, hb2⟩

set_option maxHeartbeats 8000000 in
set_option maxRecDepth 100000 in
theorem impl_fits3 (v : Value) (r : List Tok) (fp : List Nat) (w : World) (hl : r.length ≤ 1048576) (H : (sSlice sTok).R w [v] r fp) :
  Calls Tryd.prog 46 #[.int .i64 3, v] w (Says (fitsR 3 r) w) := by
 obtain ⟨al, cl, rfl, hcl, hml, -⟩ := open_rows H
 unfold maxLen at hml
 have HF := Lib.hid (fits_some (k := 3) (by omega) r)
 clear H
 go_enter Tryd.func46, Tryd.ntmps46
 by_cases h1 : 0 < r.length
 ·have e1 : (0 : Int) < (r.length : Int) := by omega
  have HG : Hid (fitsR 3 r = true) := by show _ = _; rw [HF.out]; simp [h1]
  have e2 : decide ((0 : Int) < (r.length : Int)) = true := decide_eq_true e1
  clear HF
  go_wp2
  go_ret
  exact ⟨by rw [HG.out] <;> first | rfl | (simp [h1]; done) | (simp; omega), Below.refl _ _⟩
 ·have e1 : ¬ (0 : Int) < (r.length : Int) := by omega
  have HG : Hid (fitsR 3 r = false) := by show _ = _; rw [HF.out]; exact decide_eq_false h1
  have e2 : decide ((0 : Int) < (r.length : Int)) = false := decide_eq_false e1
  clear HF
  go_wp2
  go_ret
  exact ⟨by rw [HG.out] <;> first | rfl | (simp [h1]; done) | (simp; omega), Below.refl _ _⟩

set_option maxHeartbeats 8000000 in
set_option maxRecDepth 100000 in
theorem impl_fits4 (v : Value) (r : List Tok) (fp : List Nat) (w : World) (hl : r.length ≤ 1048576) (H : (sSlice sTok).R w [v] r fp) :
  Calls Tryd.prog 46 #[.int .i64 4, v] w (Says (fitsR 4 r) w) := by
 have HC := Lib.hid (impl_isOnly v r fp 1 w hl H)
 have HF := Lib.hid (fits_only1 (k := 4) (by omega) r)
 generalize onlyIs 1 r = b at HC HF
 clear H hl
 go_enter Tryd.func46, Tryd.ntmps46
 go_wp2_with fail
 refine HC.out.mono ?_
 rintro e w2 ⟨rfl, hb2⟩
 go_wp2
 go_ret
 exact ⟨by rw [HF.out] <;> rfl, hb2⟩

set_option maxHeartbeats 8000000 in
set_option maxRecDepth 100000 in
theorem impl_fits5 (v : Value) (r : List Tok) (fp : List Nat) (w : World) (hl : r.length ≤ 1048576) (H : (sSlice sTok).R w [v] r fp) :
  Calls Tryd.prog 46 #[.int .i64 5, v] w (Says (fitsR 5 r) w) := by
 have HC := Lib.hid (impl_isOnly v r fp 1 w hl H)
 have HF := Lib.hid (fits_only1 (k := 5) (by omega) r)
 generalize onlyIs 1 r = b at HC HF
 clear H hl
 go_enter Tryd.func46, Tryd.ntmps46
 go_wp2_with fail
 refine HC.out.mono ?_
 rintro e w2 ⟨rfl, hb2⟩
 go_wp2
 go_ret
 exact ⟨by rw [HF.out] <;> rfl, hb2⟩

set_option maxHeartbeats 8000000 in
set_option maxRecDepth 100000 in
theorem impl_fits6 (v : Value) (r : List Tok) (fp : List Nat) (w : World) (hl : r.length ≤ 1048576) (H : (sSlice sTok).R w [v] r fp) :
  Calls Tryd.prog 46 #[.int .i64 6, v] w (Says (fitsR 6 r) w) := by
 obtain ⟨al, cl, rfl, hcl, hml, -⟩ := open_rows H
 unfold maxLen at hml
 have HF := Lib.hid (fits_some (k := 6) (by omega) r)
 clear H
 go_enter Tryd.func46, Tryd.ntmps46
 by_cases h1 : 0 < r.length
 ·have e1 : (0 : Int) < (r.length : Int) := by omega
  have HG : Hid (fitsR 6 r = true) := by show _ = _; rw [HF.out]; simp [h1]
  have e2 : decide ((0 : Int) < (r.length : Int)) = true := decide_eq_true e1
  clear HF
  go_wp2
  go_ret
  exact ⟨by rw [HG.out] <;> first | rfl | (simp [h1]; done) | (simp; omega), Below.refl _ _⟩
 ·have e1 : ¬ (0 : Int) < (r.length : Int) := by omega
  have HG : Hid (fitsR 6 r = false) := by show _ = _; rw [HF.out]; exact decide_eq_false h1
  have e2 : decide ((0 : Int) < (r.length : Int)) = false := decide_eq_false e1
  clear HF
  go_wp2
  go_ret
  exact ⟨by rw [HG.out] <;> first | rfl | (simp [h1]; done) | (simp; omega), Below.refl _ _⟩

set_option maxHeartbeats 8000000 in
set_option maxRecDepth 100000 in
theorem impl_fits7 (v : Value) (r : List Tok) (fp : List Nat) (w : World) (hl : r.length ≤ 1048576) (H : (sSlice sTok).R w [v] r fp) :
  Calls Tryd.prog 46 #[.int .i64 7, v] w (Says (fitsR 7 r) w) := by
 obtain ⟨al, cl, rfl, hcl, hml, -⟩ := open_rows H
 unfold maxLen at hml
 have HF := Lib.hid (fits_none (k := 7) (by omega) r)
 clear H
 go_enter Tryd.func46, Tryd.ntmps46
 by_cases h1 : r.length = 0
 ·have e1 : ((r.length : Int) == 0) = true := beq_iff_eq.2 (by omega)
  have HG : Hid (fitsR 7 r = true) := by show _ = _; rw [HF.out]; simp [h1]
  clear h1 HF
  go_wp2
  go_ret
  exact ⟨by rw [HG.out] <;> rfl, Below.refl _ _⟩
 ·have e1 : ((r.length : Int) == 0) = false := beq_eq_false_iff_ne.2 (by omega)
  have HG : Hid (fitsR 7 r = false) := by show _ = _; rw [HF.out]; exact decide_eq_false h1
  clear h1 HF
  go_wp2
  go_ret
  exact ⟨by rw [HG.out] <;> rfl, Below.refl _ _⟩

set_option maxHeartbeats 8000000 in
set_option maxRecDepth 100000 in
theorem impl_fits8 (v : Value) (r : List Tok) (fp : List Nat) (w : World) (hl : r.length ≤ 1048576) (H : (sSlice sTok).R w [v] r fp) :
  Calls Tryd.prog 46 #[.int .i64 8, v] w (Says (fitsR 8 r) w) := by
 obtain ⟨al, cl, rfl, hcl, hml, -⟩ := open_rows H
 unfold maxLen at hml
 have HF := Lib.hid (fits_none (k := 8) (by omega) r)
 clear H
 go_enter Tryd.func46, Tryd.ntmps46
 by_cases h1 : r.length = 0
 ·have e1 : ((r.length : Int) == 0) = true := beq_iff_eq.2 (by omega)
  have HG : Hid (fitsR 8 r = true) := by show _ = _; rw [HF.out]; simp [h1]
  clear h1 HF
  go_wp2
  go_ret
  exact ⟨by rw [HG.out] <;> rfl, Below.refl _ _⟩
 ·have e1 : ((r.length : Int) == 0) = false := beq_eq_false_iff_ne.2 (by omega)
  have HG : Hid (fitsR 8 r = false) := by show _ = _; rw [HF.out]; exact decide_eq_false h1
  clear h1 HF
  go_wp2
  go_ret
  exact ⟨by rw [HG.out] <;> rfl, Below.refl _ _⟩

set_option maxHeartbeats 8000000 in
set_option maxRecDepth 100000 in
theorem impl_fits9 (v : Value) (r : List Tok) (fp : List Nat) (w : World) (hl : r.length ≤ 1048576) (H : (sSlice sTok).R w [v] r fp) :
  Calls Tryd.prog 46 #[.int .i64 9, v] w (Says (fitsR 9 r) w) := by
 have HC := Lib.hid (impl_isOnly v r fp 3 w hl H)
 have HF := Lib.hid (fits_only3 r)
 generalize onlyIs 3 r = b at HC HF
 clear H hl
 go_enter Tryd.func46, Tryd.ntmps46
 go_wp2_with fail
 refine HC.out.mono ?_
 rintro e w2 ⟨rfl, hb2⟩
 go_wp2
 go_ret
 exact ⟨by rw [HF.out] <;> rfl, hb2⟩

set_option maxHeartbeats 8000000 in
set_option maxRecDepth 100000 in
theorem impl_fits10 (v : Value) (r : List Tok) (fp : List Nat) (w : World) (hl : r.length ≤ 1048576) (H : (sSlice sTok).R w [v] r fp) :
  Calls Tryd.prog 46 #[.int .i64 10, v] w (Says (fitsR 10 r) w) := by
 obtain ⟨al, cl, rfl, hcl, hml, -⟩ := open_rows H
 clear H
 go_enter Tryd.func46, Tryd.ntmps46
 go_wp2
 go_ret
 exact ⟨rfl, Below.refl _ _⟩

theorem impl_restFits {k : Nat} (hk : k ≤ 10) (v : Value) (r : List Tok) (fp : List Nat) (w : World) (hl : r.length ≤ 1048576) (H : (sSlice sTok).R w [v] r fp) :
  Calls Tryd.prog 46 #[.int .i64 (k : Nat), v] w (Says (fitsR k r) w) := by
 have : k = 0 ∨ k = 1 ∨ k = 2 ∨ k = 3 ∨ k = 4 ∨ k = 5 ∨ k = 6 ∨ k = 7 ∨ k = 8 ∨ k = 9 ∨ k = 10 := by omega
 rcases this with rfl | rfl | rfl | rfl | rfl | rfl | rfl | rfl | rfl | rfl | rfl
 ·exact impl_fits0 v r fp w hl H
 ·exact impl_fits1 v r fp w hl H
 ·exact impl_fits2 v r fp w hl H
 ·exact impl_fits3 v r fp w hl H
 ·exact impl_fits4 v r fp w hl H
 ·exact impl_fits5 v r fp w hl H
 ·exact impl_fits6 v r fp w hl H
 ·exact impl_fits7 v r fp w hl H
 ·exact impl_fits8 v r fp w hl H
 ·exact impl_fits9 v r fp w hl H
 ·exact impl_fits10 v r fp w hl H

def CopyToks (l : List Tok) (w : World) (e : Ending) (w' : World) : Prop :=
 ∃ (v : Value) (fp : List Nat), e = .returned v ∧ (sSlice sTok).R w' [v] l fp ∧ Own w' w.heap.size fp ∧ Below w.heap.size w w'

set_option maxHeartbeats 16000000 in
set_option maxRecDepth 100000 in
theorem impl_copyTokens (v : Value) (l : List Tok) (fp : List Nat) (w : World) (hl : l.length ≤ 1000000) (hx : ∀ k, (hk : k < l.length) → l[k].hidden.length ≤ 2000000) (H : (sSlice sTok).R w [v] l fp) :
  Calls Tryd.prog 47 #[v] w (CopyToks l w) := by
 have HL0 := Lib.hid H
 have HXX := Lib.hid hx
 obtain ⟨al, cl, rfl, hcl, hml, hrow⟩ := open_rows H
 unfold maxLen at hml
 have HROW : Hid (0 < l.length → ∃ bb ob, al = some ⟨bb, ob, none⟩) := fun h => by obtain ⟨b, o, -, e, -⟩ := hrow h; exact ⟨b, o, e⟩
 clear H hx hrow
 go_enter Tryd.func47, Tryd.ntmps47
 go_wp2
 go_loopw [3, 8] (fun vo vi wr => ∃ (k : Nat) (L : List (Elem Tok)), k ≤ l.length ∧ vi = .int .i64 k ∧ Hid (L.map (·.d) = l.take k) ∧ Hid (RowN sTok w.heap.size 47 vo L wr) ∧ Hid (Own wr w.heap.size (L.flatMap (·.fp))) ∧ Below w.heap.size w wr) (fun _ vi _ => l.length - (intOf vi).toNat)
 case atStart => exact ⟨0, [], by omega, rfl, by show _ = _; simp, RowN.nil _ _ _ _, Own.nil _ _, Below.refl _ _⟩
 case round =>
  obtain ⟨k, L, hk, rfl, HI, HG, HO, hb⟩ := hrel
  obtain ⟨ao, co, hvo, -⟩ := HG.out.val
  subst hvo
  have hLk0 : L.length = k := by have h9 := congrArg List.length HI.out; rw [List.length_map, List.length_take] at h9; omega
  have hLk := Lib.hid hLk0
  clear hLk0
  obtain ⟨NL, HNL⟩ : ∃ NL : Nat, Hid (NL = L.length) := ⟨L.length, Lib.hid rfl⟩
  rw [show L.length = NL from HNL.out.symm] at HG ⊢
  by_cases hlt : k < l.length
  rotate_left
  ·have HE : Hid (L.map (·.d) = l) := by show _ = _; rw [HI.out, List.take_of_length_le (by omega)]
   obtain ⟨fx, rx, -, ox⟩ := HG.out.read
   have HRX := Lib.hid rx
   have HOX := Lib.hid (ox HO.out)
   have i0 : ¬ (k : Int) < (l.length : Int) := by omega
   clear HI rx ox
   go_wp2
   go_ret
   exact ⟨_, fx, rfl, by have h9 := HRX.out; rw [HE.out] at h9; exact h9, HOX.out, hb⟩
  obtain ⟨bw, ow, rfl⟩ := HROW.out (by omega)
  have i0 : (k : Int) < (l.length : Int) := by omega
  have i1 : (0 : Int) ≤ (k : Int) := by omega
  obtain ⟨xa, xc, xf, x0, x1, x2, x3, xR, hbb, hxf⟩ := tok_at ((sSlice sTok).below HL0.out hb) hlt
  have HHL : l[k].hidden.length ≤ 2000000 := HXX.out k hlt
  obtain ⟨tk, HTK⟩ : ∃ tk : Tok, Hid (tk = l[k]) := ⟨_, Lib.hid rfl⟩
  rw [show l[k] = tk from HTK.out.symm] at x0 x1 x2 x3 xR HHL
  have bx := alloc_below' wr (.cells #[.int .i64 tk.kind, .string tk.text, .bool tk.spaced, .slice xa tk.hidden.length xc] 47)
  have HX := Lib.hid (heap_alloc_new wr (.cells #[.int .i64 tk.kind, .string tk.text, .bool tk.spaced, .slice xa tk.hidden.length xc] 47))
  have HXR := Lib.hid (sTok.below xR bx)
  have HGX := Lib.hid (HG.out.below bx)
  have HOX := Lib.hid (HO.out.grow bx)
  have hbX := hb.trans (bx.mono hb.size)
  have hwr := hb.size
  have HMI := Lib.hid HG.out.mine
  have HLTO := Lib.hid (fun b hb => HO.out.lt b hb)
  clear xR hxf hbb HG HO
  go_upto_region 5 with fail
  clear x0 x1 x2 x3
  generalize (wr.alloc (.cells #[.int .i64 tk.kind, .string tk.text, .bool tk.spaced, .slice xa tk.hidden.length xc] 47)) = W1 at *
  have hW1 := bx.size
  have p0 := cell_of_row W1 (wr.heap.size) 0 _ _ _ HX.out
  have p1 := cell_of_row W1 (wr.heap.size) 1 _ _ _ HX.out
  have p2 := cell_of_row W1 (wr.heap.size) 2 _ _ _ HX.out
  have p3 := cell_of_row W1 (wr.heap.size) 3 _ _ _ HX.out
  have HC := Lib.hid (impl_copyToken _ tk _ W1 HHL HXR.out)
  go_wp2_with fail
  refine HC.out.mono ?_
  rintro e w3 ⟨a3, c3, f3, rfl, R3, O3, -, hb3⟩
  clear p0 p1 p2 p3 HC
  have hb23 := bx.trans (hb3.mono bx.size)
  have hW3 := hb23.size
  have hb13 := hb.trans (hb23.mono hb.size)
  have bl := alloc_below' w3 (.cells #[.int .i64 tk.kind, .string tk.text, .bool tk.spaced, .slice a3 tk.hidden.length c3] 47)
  have HL4 := Lib.hid (heap_alloc_new w3 (.cells #[.int .i64 tk.kind, .string tk.text, .bool tk.spaced, .slice a3 tk.hidden.length c3] 47))
  have HR4 := Lib.hid ((HGX.out.below hb3).below bl)
  have HO4 := Lib.hid ((HOX.out.grow hb3).grow bl)
  have RX := Lib.hid (sTok.below R3 bl)
  have OX := Lib.hid (O3.grow bl)
  have hb14 := hb13.trans (bl.mono hb13.size)
  have HXN : Hid (∀ b ∈ f3, (Value.slice ao NL co).ownBlock ≠ some b) := fun b hb h => by
   have h1 := (HMI.out b h).2
   have h2 := (O3.2 b hb).1
   omega
  clear R3 O3 HGX HOX HXR HX bx hb3 hb23 hbX
  go_upto_region 6 with (at_builtin; refine wp_append_rowN (X := [(⟨[.int .i64 tk.kind, .string tk.text, .bool tk.spaced, .slice a3 tk.hidden.length c3], tk, f3⟩ : Elem Tok)]) ti_tok rfl (by decide) _ rfl (.tmp 12) (.tmp 15) rfl w.heap.size (.slice ao NL co) rfl HR4.out ⟨w3.heap.size, 0, none⟩ 1 1 rfl rfl (fun x hx => by obtain rfl := List.mem_singleton.1 hx; exact ⟨rfl, RX.out, HXN.out⟩) (fun x hx => by obtain rfl := List.mem_singleton.1 hx; exact tok_one1 _ _ _ _ RX.out) (fun j u hj => by rw [addr_add, Nat.zero_add, cell_of_row _ _ _ _ _ _ HL4.out]; simpa using hj) (by have := HNL.out; have := hLk.out; unfold maxLen; omega) (by have := HNL.out; have := hLk.out; omega) hb14.size ?_; intro v5 w5 hR5 hg5 hp5)
  have hb5 : Below w.heap.size w w5 := hb14.grown hg5 hb14.size (fun b hb => (HMI.out b hb).1)
  have HO5 : Hid (Own w5 w.heap.size ((L ++ [(⟨[.int .i64 tk.kind, .string tk.text, .bool tk.spaced, .slice a3 tk.hidden.length c3], tk, f3⟩ : Elem Tok)]).flatMap (·.fp))) := by
   show Own _ _ _
   rw [flat_more]
   have e1 : ([(⟨[.int .i64 tk.kind, .string tk.text, .bool tk.spaced, .slice a3 tk.hidden.length c3], tk, f3⟩ : Elem Tok)]).flatMap (·.fp) = f3 := by simp
   rw [e1]
   refine own_grownN (HO4.out.app (OX.out.lower (by omega)) fun b hb hx => ?_) (fun b hb => ?_) hg5
   ·have h1 := HLTO.out b hb
    have h2 := (OX.out.2 b hx).1
    omega
   ·rcases List.mem_append.1 hb with hb | hb
    ·obtain ⟨x, hx, hb'⟩ := List.mem_flatMap.1 hb
     exact HR4.out.ap x hx b hb'
    ·exact HXN.out b hb
  have HR5 := Lib.hid hR5
  obtain ⟨a5, c5, hv5, -⟩ := hR5.val
  rw [show (L ++ [(⟨[.int .i64 tk.kind, .string tk.text, .bool tk.spaced, .slice a3 tk.hidden.length c3], tk, f3⟩ : Elem Tok)]).length = NL + 1 by rw [List.length_append, HNL.out]; rfl] at hv5
  subst hv5
  have HE : Hid ((L ++ [(⟨[.int .i64 tk.kind, .string tk.text, .bool tk.spaced, .slice a3 tk.hidden.length c3], tk, f3⟩ : Elem Tok)]).map (·.d) = l.take (k + 1)) := by
   show _ = _
   rw [List.map_append, HI.out, List.take_succ_eq_append_getElem hlt, ← HTK.out]; rfl
  clear hR5 hg5 hp5 HR4 HO4 RX HL4
  go_wp2
  go_roundw
  case rel => exact ⟨k + 1, _, by omega, by go_num, HE, HR5, HO5, hb5⟩
  case measure => simp [intOf]; omega

end Go.Proofs.YtlegeancmcmbaaaDoor

/- Directive: its shape, and the law's own helpers. (Made by rec.py.) -/
namespace Go.Proofs.YtlegeancmcmbaaaDoor
open Go.RowKit Go.ChangeShapes Go.WideShapes Go.Deep
section
variable {H : Type} {enc : TypeId × Value → H} {P : Program} {w : World} {base : Nat} {spare : Nat → Bool} {held : Bool}
end
section
variable {H : Type} {enc : TypeId × Value → H} {w : World} {base : Nat} {spare : Nat → Bool} {held : Bool}
end
end Go.Proofs.YtlegeancmcmbaaaDoor

/- DirectiveOf and ReadDirective of the model, as the exact laws call them. -/
namespace Go.Proofs.YtlegeancmcmbaaaDoor
open Go.RowKit
theorem kindAt_le (x : List UInt8) : ∀ (d k : Nat), 11 - k ≤ d → kindAt x k ≤ 10 := by
 intro d
 induction d with
 | zero => intro k h; rw [kindAt_out (by omega)]; omega
 |
  succ d ih =>
  intro k h
  by_cases hk : k ≤ 10
  ·by_cases hx : x = kindTx k
   ·rw [kindAt_hit hk hx]; exact hk
   ·rw [kindAt_next hk hx]; exact ih (k + 1) (by omega)
  ·rw [kindAt_out hk]; omega
end Go.Proofs.YtlegeancmcmbaaaDoor
