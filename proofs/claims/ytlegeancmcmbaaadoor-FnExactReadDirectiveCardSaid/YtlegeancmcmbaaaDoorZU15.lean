/- Texts that the proof of U stands on, in one file. -/
import Derived.Test.YtlegeancmcmbaaaDoorZU14
import Derived.Test.YtlegeancmcmbaaaDoorZU11
import Derived.Deep.RegionLaw
import Derived.Lib.SliceRun
import Derived.Test.YtlegeancmcmbaaaDoorZU9
import Derived.Test.YtlegeancmcmbaaaDoorZU13
import Derived.Test.YtlegeancmcmbaaaDoorZU5
import Derived.Test.YtlegeancmcmbaaaDoorZU12
import Derived.Test.YtlegeancmcmbaaaDoorZU8
import Derived.Test.YtlegeancmcmbaaaDoorZU7
import Derived.Test.YtlegeancmcmbaaaDoorZU1
import Derived.Test.YtlegeancmcmbaaaDoorZU2
import Derived.Test.YtlegeancmcmbaaaDoorZU3
set_option linter.unusedVariables false
set_option linter.unusedSimpArgs false
/- slices.Delete of one macro, of a row of the call's own. -/
namespace Go.Proofs.YtlegeancmcmbaaaDoor
open Go.RowKit
end Go.Proofs.YtlegeancmcmbaaaDoor

/- Undefine of the program. -/
namespace Go.Proofs.YtlegeancmcmbaaaDoor
open Go.RowKit
/-! ### As the exact law calls them -/
end Go.Proofs.YtlegeancmcmbaaaDoor

/- ReplaceDefined of the model, as the exact law calls it: under a weight; the marks of what comes out. -/
namespace Go.Proofs.YtlegeancmcmbaaaDoor
open Go.RowKit
end Go.Proofs.YtlegeancmcmbaaaDoor

/- ReplaceDefined of the program. -/
namespace Go.Proofs.YtlegeancmcmbaaaDoor
open Go.RowKit
end Go.Proofs.YtlegeancmcmbaaaDoor

/- Directives of the program: what stands behind a name; tokens in memory of the call's own. (Made by gen_doia.py.) -/
namespace Go.Proofs.YtlegeancmcmbaaaDoor
open Go.RowKit

def onlyIs (c : Int) (l : List Tok) : Bool := match l with | [t] => decide (t.kind = c) | _ => false
theorem only_no {c : Int} {r : List Tok} (h : r.length ≠ 1) : onlyIs c r = false := by
 match r, h with
 | [], _ => rfl
 | [t], h => exact absurd rfl h
 | t :: u :: r, _ => rfl
theorem only_at {c : Int} {r : List Tok} (h : r.length = 1) : onlyIs c r = decide ((r[0]'(by omega)).kind = c) := by
 match r, h with
 | [t], _ => rfl

set_option maxHeartbeats 8000000 in
set_option maxRecDepth 100000 in
theorem impl_isOnly (v : Value) (r : List Tok) (fp : List Nat) (c : Int) (w : World) (hl : r.length ≤ 1048576) (H : (sSlice sTok).R w [v] r fp) :
  Calls Tryd.prog 70 #[v, .int .i64 c] w (Says (onlyIs c r) w) := by
 have H0 := Lib.hid H
 obtain ⟨al, cl, rfl, hcl, hml, hrow⟩ := open_rows H
 unfold maxLen at hml
 clear H
 go_enter Tryd.func70, Tryd.ntmps70
 by_cases h1 : r.length = 1
 rotate_left
 ·have HF := Lib.hid (only_no (c := c) h1)
  have e1 : ((r.length : Int) == 1) = false := by simp; omega
  clear h1 hrow
  go_wp2
  go_ret
  exact ⟨by rw [HF.out] <;> rfl, Below.refl _ _⟩
 have HF := Lib.hid (only_at (c := c) h1)
 have e1 : ((r.length : Int) == 1) = true := by simp; omega
 obtain ⟨b1, o1, -, rfl, -, -, -⟩ := hrow (by omega)
 obtain ⟨xa, xc, xf, x0, x1, x2, x3, xR, hbb, -⟩ := tok_at H0.out (j := 0) (by omega)
 have i1 : (0 : Int) < (r.length : Int) := by omega
 simp only [Nat.zero_mul, Nat.add_zero] at x0 x1 x2 x3
 clear xR hrow
 by_cases hk : (r[0]'(by omega)).kind = c
 ·have e2 : ((r[0]'(by omega)).kind == c) = true := by simp [hk]
  have HG : Hid (onlyIs c r = true) := by show _ = _; rw [HF.out]; simp [hk]
  clear hk HF
  go_wp2
  go_ret
  exact ⟨by rw [HG.out] <;> rfl, Below.refl _ _⟩
 ·have e2 : ((r[0]'(by omega)).kind == c) = false := by simp [hk]
  have HG : Hid (onlyIs c r = false) := by show _ = _; rw [HF.out]; simp [hk]
  clear hk HF
  go_wp2
  go_ret
  exact ⟨by rw [HG.out] <;> rfl, Below.refl _ _⟩

def fitsR (k : Nat) (r : List Tok) : Bool := decide (k ≠ 0) && restOk k r
theorem fits_only1 {k : Nat} (h : k = 2 ∨ k = 4 ∨ k = 5) (r : List Tok) : fitsR k r = onlyIs 1 r := by
 rcases h with rfl | rfl | rfl <;> rfl
theorem fits_only3 (r : List Tok) : fitsR 9 r = onlyIs 3 r := rfl
theorem fits_some {k : Nat} (h : k = 3 ∨ k = 6) (r : List Tok) : fitsR k r = decide (0 < r.length) := by
 rw [← rest_some h]; rcases h with rfl | rfl <;> rfl
theorem fits_none {k : Nat} (h : k = 7 ∨ k = 8) (r : List Tok) : fitsR k r = decide (r.length = 0) := by
 rw [← rest_none h]; rcases h with rfl | rfl <;> rfl


set_option maxHeartbeats 8000000 in
set_option maxRecDepth 100000 in
theorem impl_fits0 (v : Value) (r : List Tok) (fp : List Nat) (w : World) (hl : r.length ≤ 1048576) (H : (sSlice sTok).R w [v] r fp) :
  Calls Tryd.prog 46 #[.int .i64 0, v] w (Says (fitsR 0 r) w) := by
 obtain ⟨al, cl, rfl, hcl, hml, -⟩ := open_rows H
 clear H
 go_enter Tryd.func46, Tryd.ntmps46
 go_wp2
 go_ret
 exact ⟨rfl, Below.refl _ _⟩

set_option maxHeartbeats 8000000 in
set_option maxRecDepth 100000 in
theorem impl_fits1 (v : Value) (r : List Tok) (fp : List Nat) (w : World) (hl : r.length ≤ 1048576) (H : (sSlice sTok).R w [v] r fp) :
  Calls Tryd.prog 46 #[.int .i64 1, v] w (Says (fitsR 1 r) w) := by
 have HC := Lib.hid (impl_MacroOf v r fp w hl H)
 clear H hl
 unfold MOf at HC
 go_enter Tryd.func46, Tryd.ntmps46
 go_wp2_with fail
 refine HC.out.mono ?_
 rintro e w2 ⟨cs, f2, rfl, hR, -, hb2⟩
 obtain ⟨h2, h3, q2, q3, rfl, -, K2, K3, -⟩ := hR
 obtain ⟨a2, c2, rfl, -⟩ := open_strs K2
 obtain ⟨a3, c3, rfl, -⟩ := open_rows K3
 clear K2 K3 HC
 go_wp2
 go_ret
 exact ⟨rfl, hb2.alloc hb2.size _⟩

set_option maxHeartbeats 8000000 in
set_option maxRecDepth 100000 in
theorem impl_fits2 (v : Value) (r : List Tok) (fp : List Nat) (w : World) (hl : r.length ≤ 1048576) (H : (sSlice sTok).R w [v] r fp) :
  Calls Tryd.prog 46 #[.int .i64 2, v] w (Says (fitsR 2 r) w) := by
 have HC := Lib.hid (impl_isOnly v r fp 1 w hl H)
 have HF := Lib.hid (fits_only1 (k := 2) (by omega) r)
 generalize onlyIs 1 r = b at HC HF
 clear H hl
 go_enter Tryd.func46, Tryd.ntmps46
 go_wp2_with fail
 refine HC.out.mono ?_
 rintro e w2 ⟨rfl, hb2⟩
 go_wp2
 go_ret
 exact ⟨by rw [HF.out] <;> rfl, hb2⟩

set_option maxHeartbeats 8000000 in
set_option maxRecDepth 100000 in
theorem impl_fits3 (v : Value) (r : List Tok) (fp : List Nat) (w : World) (hl : r.length ≤ 1048576) (H : (sSlice sTok).R w [v] r fp) :
  Calls Tryd.prog 46 #[.int .i64 3, v] w (Says (fitsR 3 r) w) := by
 obtain ⟨al, cl, rfl, hcl, hml, -⟩ := open_rows H
 unfold maxLen at hml
 have HF := Lib.hid (fits_some (k := 3) (by omega) r)
 clear H
 go_enter Tryd.func46, Tryd.ntmps46
 by_cases h1 : 0 < r.length
 ·have e1 : (0 : Int) < (r.length : Int) := by omega
  have HG : Hid (fitsR 3 r = true) := by show _ = _; rw [HF.out]; simp [h1]
  have e2 : decide ((0 : Int) < (r.length : Int)) = true := decide_eq_true e1
  clear HF
  go_wp2
  go_ret
  exact ⟨by rw [HG.out] <;> first | rfl | (simp [h1]; done) | (simp; omega), Below.refl _ _⟩
 ·have e1 : ¬ (0 : Int) < (r.length : Int) := by omega
  have HG : Hid (fitsR 3 r = false) := by show _ = _; rw [HF.out]; exact decide_eq_false h1
  have e2 : decide ((0 : Int) < (r.length : Int)) = false := decide_eq_false e1
  clear HF
  go_wp2
  go_ret
  exact ⟨by rw [HG.out] <;> first | rfl | (simp [h1]; done) | (simp; omega), Below.refl _ _⟩

set_option maxHeartbeats 8000000 in
set_option maxRecDepth 100000 in
theorem impl_fits4 (v : Value) (r : List Tok) (fp : List Nat) (w : World) (hl : r.length ≤ 1048576) (H : (sSlice sTok).R w [v] r fp) :
  Calls Tryd.prog 46 #[.int .i64 4, v] w (Says (fitsR 4 r) w) := by
 have HC := Lib.hid (impl_isOnly v r fp 1 w hl H)
 have HF := Lib.hid (fits_only1 (k := 4) (by omega) r)
 generalize onlyIs 1 r = b at HC HF
 clear H hl
 go_enter Tryd.func46, Tryd.ntmps46
 go_wp2_with fail
 refine HC.out.mono ?_
 rintro e w2 ⟨rfl, hb2⟩
 go_wp2
 go_ret
 exact ⟨by rw [HF.out] <;> rfl, hb2⟩

set_option maxHeartbeats 8000000 in
set_option maxRecDepth 100000 in
theorem impl_fits5 (v : Value) (r : List Tok) (fp : List Nat) (w : World) (hl : r.length ≤ 1048576) (H : (sSlice sTok).R w [v] r fp) :
  Calls Tryd.prog 46 #[.int .i64 5, v] w (Says (fitsR 5 r) w) := by
 have HC := Lib.hid (impl_isOnly v r fp 1 w hl H)
 have HF := Lib.hid (fits_only1 (k := 5) (by omega) r)
 generalize onlyIs 1 r = b at HC HF
 clear H hl
 go_enter Tryd.func46, Tryd.ntmps46
 go_wp2_with fail
 refine HC.out.mono ?_
 rintro e w2 ⟨rfl, hb2⟩
 go_wp2
 go_ret
 exact ⟨by rw [HF.out] <;> rfl, hb2⟩

set_option maxHeartbeats 8000000 in
set_option maxRecDepth 100000 in
theorem impl_fits6 (v : Value) (r : List Tok) (fp : List Nat) (w : World) (hl : r.length ≤ 1048576) (H : (sSlice sTok).R w [v] r fp) :
  Calls Tryd.prog 46 #[.int .i64 6, v] w (Says (fitsR 6 r) w) := by
 obtain ⟨al, cl, rfl, hcl, hml, -⟩ := open_rows H
 unfold maxLen at hml
 have HF := Lib.hid (fits_some (k := 6) (by omega) r)
 clear H
 go_enter Tryd.func46, Tryd.ntmps46
 by_cases h1 : 0 < r.length
 ·have e1 : (0 : Int) < (r.length : Int) := by omega
  have HG : Hid (fitsR 6 r = true) := by show _ = _; rw [HF.out]; simp [h1]
  have e2 : decide ((0 : Int) < (r.length : Int)) = true := decide_eq_true e1
  clear HF
  go_wp2
  go_ret
  exact ⟨by rw [HG.out] <;> first | rfl | (simp [h1]; done) | (simp; omega), Below.refl _ _⟩
 ·have e1 : ¬ (0 : Int) < (r.length : Int) := by omega
  have HG : Hid (fitsR 6 r = false) := by show _ = _; rw [HF.out]; exact decide_eq_false h1
  have e2 : decide ((0 : Int) < (r.length : Int)) = false := decide_eq_false e1
  clear HF
  go_wp2
  go_ret
  exact ⟨by rw [HG.out] <;> first | rfl | (simp [h1]; done) | (simp; omega), Below.refl _ _⟩

set_option maxHeartbeats 8000000 in
set_option maxRecDepth 100000 in
theorem impl_fits7 (v : Value) (r : List Tok) (fp : List Nat) (w : World) (hl : r.length ≤ 1048576) (H : (sSlice sTok).R w [v] r fp) :
  Calls Tryd.prog 46 #[.int .i64 7, v] w (Says (fitsR 7 r) w) := by
 obtain ⟨al, cl, rfl, hcl, hml, -⟩ := open_rows H
 unfold maxLen at hml
 have HF := Lib.hid (fits_none (k := 7) (by omega) r)
 clear H
 go_enter Tryd.func46, Tryd.ntmps46
 by_cases h1 : r.length = 0
 ·have e1 : ((r.length : Int) == 0) = true := beq_iff_eq.2 (by omega)
  have HG : Hid (fitsR 7 r = true) := by show _ = _; rw [HF.out]; simp [h1]
  clear h1 HF
  go_wp2
  go_ret
  exact ⟨by rw [HG.out] <;> rfl, Below.refl _ _⟩
 ·have e1 : ((r.length : Int) == 0) = false := beq_eq_false_iff_ne.2 (by omega)
  have HG : Hid (fitsR 7 r = false) := by show _ = _; rw [HF.out]; exact decide_eq_false h1
  clear h1 HF
  go_wp2
  go_ret
  exact ⟨by rw [HG.out] <;> rfl, Below.refl _ _⟩

set_option maxHeartbeats 8000000 in
set_option maxRecDepth 100000 in
theorem impl_fits8 (v : Value) (r : List Tok) (fp : List Nat) (w : World) (hl : r.length ≤ 1048576) (H : (sSlice sTok).R w [v] r fp) :
  Calls Tryd.prog 46 #[.int .i64 8, v] w (Says (fitsR 8 r) w) := by
 obtain ⟨al, cl, rfl, hcl, hml, -⟩ := open_rows H
 unfold maxLen at hml
 have HF := Lib.hid (fits_none (k := 8) (by omega) r)
 clear H
 go_enter Tryd.func46, Tryd.ntmps46
 by_cases h1 : r.length = 0
 ·have e1 : ((r.length : Int) == 0) = true := beq_iff_eq.2 (by omega)
  have HG : Hid (fitsR 8 r = true) := by show _ = _; rw [HF.out]; simp [h1]
  clear h1 HF
  go_wp2
  go_ret
  exact ⟨by rw [HG.out] <;> rfl, Below.refl _ _⟩
 ·have e1 : ((r.length : Int) == 0) = false := beq_eq_false_iff_ne.2 (by omega)
  have HG : Hid (fitsR 8 r = false) := by show _ = _; rw [HF.out]; exact decide_eq_false h1
  clear h1 HF
  go_wp2
  go_ret
  exact ⟨by rw [HG.out] <;> rfl, Below.refl _ _⟩

set_option maxHeartbeats 8000000 in
set_option maxRecDepth 100000 in
theorem impl_fits9 (v : Value) (r : List Tok) (fp : List Nat) (w : World) (hl : r.length ≤ 1048576) (H : (sSlice sTok).R w [v] r fp) :
  Calls Tryd.prog 46 #[.int .i64 9, v] w (Says (fitsR 9 r) w) := by
 have HC := Lib.hid (impl_isOnly v r fp 3 w hl H)
 have HF := Lib.hid (fits_only3 r)
 generalize onlyIs 3 r = b at HC HF
 clear H hl
 go_enter Tryd.func46, Tryd.ntmps46
 go_wp2_with fail
 refine HC.out.mono ?_
 rintro e w2 ⟨rfl, hb2⟩
 go_wp2
 go_ret
 exact ⟨by rw [HF.out] <;> rfl, hb2⟩

set_option maxHeartbeats 8000000 in
set_option maxRecDepth 100000 in
theorem impl_fits10 (v : Value) (r : List Tok) (fp : List Nat) (w : World) (hl : r.length ≤ 1048576) (H : (sSlice sTok).R w [v] r fp) :
  Calls Tryd.prog 46 #[.int .i64 10, v] w (Says (fitsR 10 r) w) := by
 obtain ⟨al, cl, rfl, hcl, hml, -⟩ := open_rows H
 clear H
 go_enter Tryd.func46, Tryd.ntmps46
 go_wp2
 go_ret
 exact ⟨rfl, Below.refl _ _⟩

theorem impl_restFits {k : Nat} (hk : k ≤ 10) (v : Value) (r : List Tok) (fp : List Nat) (w : World) (hl : r.length ≤ 1048576) (H : (sSlice sTok).R w [v] r fp) :
  Calls Tryd.prog 46 #[.int .i64 (k : Nat), v] w (Says (fitsR k r) w) := by
 have : k = 0 ∨ k = 1 ∨ k = 2 ∨ k = 3 ∨ k = 4 ∨ k = 5 ∨ k = 6 ∨ k = 7 ∨ k = 8 ∨ k = 9 ∨ k = 10 := by omega
 rcases this with rfl | rfl | rfl | rfl | rfl | rfl | rfl | rfl | rfl | rfl | rfl
 ·exact impl_fits0 v r fp w hl H
 ·exact impl_fits1 v r fp w hl H
 ·exact impl_fits2 v r fp w hl H
 ·exact impl_fits3 v r fp w hl H
 ·exact impl_fits4 v r fp w hl H
 ·exact impl_fits5 v r fp w hl H
 ·exact impl_fits6 v r fp w hl H
 ·exact impl_fits7 v r fp w hl H
 ·exact impl_fits8 v r fp w hl H
 ·exact impl_fits9 v r fp w hl H
 ·exact impl_fits10 v r fp w hl H

def CopyToks (l : List Tok) (w : World) (e : Ending) (w' : World) : Prop :=
 ∃ (v : Value) (fp : List Nat), e = .returned v ∧ (sSlice sTok).R w' [v] l fp ∧ Own w' w.heap.size fp ∧ Below w.heap.size w w'

set_option maxHeartbeats 16000000 in
set_option maxRecDepth 100000 in
theorem impl_copyTokens (v : Value) (l : List Tok) (fp : List Nat) (w : World) (hl : l.length ≤ 1000000) (hx : ∀ k, (hk : k < l.length) → l[k].hidden.length ≤ 2000000) (H : (sSlice sTok).R w [v] l fp) :
  Calls Tryd.prog 47 #[v] w (CopyToks l w) := by
 have HL0 := Lib.hid H
 have HXX := Lib.hid hx
 obtain ⟨al, cl, rfl, hcl, hml, hrow⟩ := open_rows H
 unfold maxLen at hml
 have HROW : Hid (0 < l.length → ∃ bb ob, al = some ⟨bb, ob, none⟩) := fun h => by obtain ⟨b, o, -, e, -⟩ := hrow h; exact ⟨b, o, e⟩
 clear H hx hrow
 go_enter Tryd.func47, Tryd.ntmps47
 go_wp2
 go_loopw [3, 8] (fun vo vi wr => ∃ (k : Nat) (L : List (Elem Tok)), k ≤ l.length ∧ vi = .int .i64 k ∧ Hid (L.map (·.d) = l.take k) ∧ Hid (RowN sTok w.heap.size 47 vo L wr) ∧ Hid (Own wr w.heap.size (L.flatMap (·.fp))) ∧ Below w.heap.size w wr) (fun _ vi _ => l.length - (intOf vi).toNat)
 case atStart => exact ⟨0, [], by omega, rfl, by show _ = _; simp, RowN.nil _ _ _ _, Own.nil _ _, Below.refl _ _⟩
 case round =>
  obtain ⟨k, L, hk, rfl, HI, HG, HO, hb⟩ := hrel
  obtain ⟨ao, co, hvo, -⟩ := HG.out.val
  subst hvo
  have hLk0 : L.length = k := by have h9 := congrArg List.length HI.out; rw [List.length_map, List.length_take] at h9; omega
  have hLk := Lib.hid hLk0
  clear hLk0
  obtain ⟨NL, HNL⟩ : ∃ NL : Nat, Hid (NL = L.length) := ⟨L.length, Lib.hid rfl⟩
  rw [show L.length = NL from HNL.out.symm] at HG ⊢
  by_cases hlt : k < l.length
  rotate_left
  ·have HE : Hid (L.map (·.d) = l) := by show _ = _; rw [HI.out, List.take_of_length_le (by omega)]
   obtain ⟨fx, rx, -, ox⟩ := HG.out.read
   have HRX := Lib.hid rx
   have HOX := Lib.hid (ox HO.out)
   have i0 : ¬ (k : Int) < (l.length : Int) := by omega
   clear HI rx ox
   go_wp2
   go_ret
   exact ⟨_, fx, rfl, by have h9 := HRX.out; rw [HE.out] at h9; exact h9, HOX.out, hb⟩
  obtain ⟨bw, ow, rfl⟩ := HROW.out (by omega)
  have i0 : (k : Int) < (l.length : Int) := by omega
  have i1 : (0 : Int) ≤ (k : Int) := by omega
  obtain ⟨xa, xc, xf, x0, x1, x2, x3, xR, hbb, hxf⟩ := tok_at ((sSlice sTok).below HL0.out hb) hlt
  have HHL : l[k].hidden.length ≤ 2000000 := HXX.out k hlt
  obtain ⟨tk, HTK⟩ : ∃ tk : Tok, Hid (tk = l[k]) := ⟨_, Lib.hid rfl⟩
  rw [show l[k] = tk from HTK.out.symm] at x0 x1 x2 x3 xR HHL
  have bx := alloc_below' wr (.cells #[.int .i64 tk.kind, .string tk.text, .bool tk.spaced, .slice xa tk.hidden.length xc] 47)
  have HX := Lib.hid (heap_alloc_new wr (.cells #[.int .i64 tk.kind, .string tk.text, .bool tk.spaced, .slice xa tk.hidden.length xc] 47))
  have HXR := Lib.hid (sTok.below xR bx)
  have HGX := Lib.hid (HG.out.below bx)
  have HOX := Lib.hid (HO.out.grow bx)
  have hbX := hb.trans (bx.mono hb.size)
  have hwr := hb.size
  have HMI := Lib.hid HG.out.mine
  have HLTO := Lib.hid (fun b hb => HO.out.lt b hb)
  clear xR hxf hbb HG HO
  go_upto_region 5 with fail
  clear x0 x1 x2 x3
  generalize (wr.alloc (.cells #[.int .i64 tk.kind, .string tk.text, .bool tk.spaced, .slice xa tk.hidden.length xc] 47)) = W1 at *
  have hW1 := bx.size
  have p0 := cell_of_row W1 (wr.heap.size) 0 _ _ _ HX.out
  have p1 := cell_of_row W1 (wr.heap.size) 1 _ _ _ HX.out
  have p2 := cell_of_row W1 (wr.heap.size) 2 _ _ _ HX.out
  have p3 := cell_of_row W1 (wr.heap.size) 3 _ _ _ HX.out
  have HC := Lib.hid (impl_copyToken _ tk _ W1 HHL HXR.out)
  go_wp2_with fail
  refine HC.out.mono ?_
  rintro e w3 ⟨a3, c3, f3, rfl, R3, O3, -, hb3⟩
  clear p0 p1 p2 p3 HC
  have hb23 := bx.trans (hb3.mono bx.size)
  have hW3 := hb23.size
  have hb13 := hb.trans (hb23.mono hb.size)
  have bl := alloc_below' w3 (.cells #[.int .i64 tk.kind, .string tk.text, .bool tk.spaced, .slice a3 tk.hidden.length c3] 47)
  have HL4 := Lib.hid (heap_alloc_new w3 (.cells #[.int .i64 tk.kind, .string tk.text, .bool tk.spaced, .slice a3 tk.hidden.length c3] 47))
  have HR4 := Lib.hid ((HGX.out.below hb3).below bl)
  have HO4 := Lib.hid ((HOX.out.grow hb3).grow bl)
  have RX := Lib.hid (sTok.below R3 bl)
  have OX := Lib.hid (O3.grow bl)
  have hb14 := hb13.trans (bl.mono hb13.size)
  have HXN : Hid (∀ b ∈ f3, (Value.slice ao NL co).ownBlock ≠ some b) := fun b hb h => by
   have h1 := (HMI.out b h).2
   have h2 := (O3.2 b hb).1
   omega
  clear R3 O3 HGX HOX HXR HX bx hb3 hb23 hbX
  go_upto_region 6 with (at_builtin; refine wp_append_rowN (X := [(⟨[.int .i64 tk.kind, .string tk.text, .bool tk.spaced, .slice a3 tk.hidden.length c3], tk, f3⟩ : Elem Tok)]) ti_tok rfl (by decide) _ rfl (.tmp 12) (.tmp 15) rfl w.heap.size (.slice ao NL co) rfl HR4.out ⟨w3.heap.size, 0, none⟩ 1 1 rfl rfl (fun x hx => by obtain rfl := List.mem_singleton.1 hx; exact ⟨rfl, RX.out, HXN.out⟩) (fun x hx => by obtain rfl := List.mem_singleton.1 hx; exact tok_one1 _ _ _ _ RX.out) (fun j u hj => by rw [addr_add, Nat.zero_add, cell_of_row _ _ _ _ _ _ HL4.out]; simpa using hj) (by have := HNL.out; have := hLk.out; unfold maxLen; omega) (by have := HNL.out; have := hLk.out; omega) hb14.size ?_; intro v5 w5 hR5 hg5 hp5)
  have hb5 : Below w.heap.size w w5 := hb14.grown hg5 hb14.size (fun b hb => (HMI.out b hb).1)
  have HO5 : Hid (Own w5 w.heap.size ((L ++ [(⟨[.int .i64 tk.kind, .string tk.text, .bool tk.spaced, .slice a3 tk.hidden.length c3], tk, f3⟩ : Elem Tok)]).flatMap (·.fp))) := by
   show Own _ _ _
   rw [flat_more]
   have e1 : ([(⟨[.int .i64 tk.kind, .string tk.text, .bool tk.spaced, .slice a3 tk.hidden.length c3], tk, f3⟩ : Elem Tok)]).flatMap (·.fp) = f3 := by simp
   rw [e1]
   refine own_grownN (HO4.out.app (OX.out.lower (by omega)) fun b hb hx => ?_) (fun b hb => ?_) hg5
   ·have h1 := HLTO.out b hb
    have h2 := (OX.out.2 b hx).1
    omega
   ·rcases List.mem_append.1 hb with hb | hb
    ·obtain ⟨x, hx, hb'⟩ := List.mem_flatMap.1 hb
     exact HR4.out.ap x hx b hb'
    ·exact HXN.out b hb
  have HR5 := Lib.hid hR5
  obtain ⟨a5, c5, hv5, -⟩ := hR5.val
  rw [show (L ++ [(⟨[.int .i64 tk.kind, .string tk.text, .bool tk.spaced, .slice a3 tk.hidden.length c3], tk, f3⟩ : Elem Tok)]).length = NL + 1 by rw [List.length_append, HNL.out]; rfl] at hv5
  subst hv5
  have HE : Hid ((L ++ [(⟨[.int .i64 tk.kind, .string tk.text, .bool tk.spaced, .slice a3 tk.hidden.length c3], tk, f3⟩ : Elem Tok)]).map (·.d) = l.take (k + 1)) := by
   show _ = _
   rw [List.map_append, HI.out, List.take_succ_eq_append_getElem hlt, ← HTK.out]; rfl
  clear hR5 hg5 hp5 HR4 HO4 RX HL4
  go_wp2
  go_roundw
  case rel => exact ⟨k + 1, _, by omega, by go_num, HE, HR5, HO5, hb5⟩
  case measure => simp [intOf]; omega

end Go.Proofs.YtlegeancmcmbaaaDoor

/- DirectiveOf of the model. (Made by gen_dir5.py.) -/
namespace Go.Proofs.YtlegeancmcmbaaaDoor
open Go.RowKit

def RetDir (r : (Int × List Tok) × Bool) (w : World) (e : Ending) (w' : World) : Prop :=
 ∃ (v : Value) (fp : List Nat), e = .returned (.tuple #[.agg #[.int .i64 r.1.1, v], .bool r.2]) ∧ (sSlice sTok).R w' [v] r.1.2 fp ∧ (∀ b ∈ fp, w.heap.size ≤ b) ∧ Below w.heap.size w w'
theorem retDir_no {r : (Int × List Tok) × Bool} {c : Bool} {w W : World} (h : r = ((0, []), c)) (hb : Below w.heap.size w W) : RetDir r w (.returned (.tuple #[.agg #[.int .i64 0, .slice none 0 0], .bool c])) W :=
 ⟨_, [], by rw [h], by rw [h]; exact slice_empty _ _ _ _ (by simp), by simp, hb⟩
theorem mkD_in {l : List Tok} {k : Nat} {s : List UInt8} (hk : k < l.length) : mkAt l k s = isMk l[k] s := by unfold mkAt; rw [dif_pos hk]
theorem mkD_out {l : List Tok} {k : Nat} {s : List UInt8} (hk : ¬ k < l.length) : mkAt l k s = false := by unfold mkAt; rw [dif_neg hk]

set_option maxHeartbeats 16000000 in
set_option maxRecDepth 100000 in
theorem spec_DirectiveOf (v : Value) (l : List Tok) (fp : List Nat) (w : World) (hl : l.length ≤ 1048576) (hx : ∀ k, (hk : k < l.length) → l[k].hidden.length ≤ 2000000) (H : (sSlice sTok).R w [v] l fp) :
  Calls Tryd.prog 18 #[v] w (RetDir (dirRes l) w) := by
 have hz0 := alloc_below' w (.cells #[.int .i64 0, .slice none 0 0] 30)
 have HZ0 := Lib.hid (heap_alloc_new w (.cells #[.int .i64 0, .slice none 0 0] 30))
 have HCP := Lib.hid (spec_l1OwnTokenList_s v l fp _ hl hx ((sSlice sTok).below H hz0))
 have hs0 : (w.alloc (.cells #[.int .i64 0, .slice none 0 0] 30)).heap.size = w.heap.size + 1 := Array.size_push _
 have HXX := Lib.hid hx
 clear H hx
 go_enter Tryd.func18, Tryd.ntmps18
 go_wp2_with fail
 refine HCP.out.mono ?_
 rintro e w1 ⟨v1, fp1, rfl, HL, lo1, -, hb1⟩
 have hB1 := hz0.trans (hb1.mono hz0.size)
 have HZ1 := Lib.hid (mbox HZ0.out hb1)
 have LO1 : Hid (∀ b ∈ fp1, w.heap.size + 1 ≤ b) := fun b hb => by have := lo1 b hb; rw [hs0] at this; omega
 clear hb1 hz0 HCP lo1 hs0 HZ0
 have HV := Lib.hid (spec_TokensValid v1 l fp1 w1 HL)
 have HL1 := Lib.hid HL
 obtain ⟨a, cap, rfl, hc, hm, hrow⟩ := open_rows HL
 unfold maxLen at hm
 have HROW : Hid (0 < l.length → ∃ bb ob, a = some ⟨bb, ob, none⟩) := fun h => by obtain ⟨b, o, -, e, -⟩ := hrow h; exact ⟨b, o, e⟩
 clear HL hrow
 go_wp2_with fail
 refine HV.out.mono ?_
 rintro e w2 ⟨rfl, hb2⟩
 have hB2 := hB1.trans (hb2.mono hB1.size)
 have HZ2 := Lib.hid (mbox HZ1.out hb2)
 have HL2 := Lib.hid ((sSlice sTok).below HL1.out hb2)
 clear HV HZ1 HL1 hb2 hB1
 cases hv : toksOk l
 ·have HF := Lib.hid (dir_bad hv)
  clear hv
  have z0 : w2.cell? ⟨w.heap.size, 0, none⟩ = some (.int .i64 0) := cell_of_row _ _ 0 _ _ _ HZ2.out
  have zf0 : w2.frozen? ⟨w.heap.size, 0, none⟩ = false := frozen_of_row _ _ 0 _ _ HZ2.out
  have z1 : w2.cell? ⟨w.heap.size, 1, none⟩ = some (.slice none 0 0) := cell_of_row _ _ 1 _ _ _ HZ2.out
  have zf1 : w2.frozen? ⟨w.heap.size, 1, none⟩ = false := frozen_of_row _ _ 1 _ _ HZ2.out
  have HS := Lib.hid (blk_set (blk_set HZ2.out 0 (.int .i64 0)) 1 (.slice none 0 0))
  have HBF := Lib.hid ((hB2.setCell (p := ⟨w.heap.size, 0, none⟩) (Nat.le_refl _) (.int .i64 0)).setCell (p := ⟨w.heap.size, 1, none⟩) (Nat.le_refl _) (.slice none 0 0))
  go_wp2
  refine bodyPost_ret (results_cell2 rfl _ _ w.heap.size _ _ _ _ rfl HS.out Tryd.underlying30 rfl (by kernel_rfl)) rfl ?_
  exact retDir_no HF.out HBF.out
 have HVV := Lib.hid hv
 have hl60 := (toksOk_facts hv).1
 clear hv
 by_cases h0 : 0 < l.length
 rotate_left
 ·have HF := Lib.hid (dir_plain HVV.out (mkD_out h0))
  have hz1 : ((l.length : Int) == 0) = true := by
   have : l.length = 0 := by omega
   rw [this]; rfl
  clear h0
  have z0 : w2.cell? ⟨w.heap.size, 0, none⟩ = some (.int .i64 0) := cell_of_row _ _ 0 _ _ _ HZ2.out
  have zf0 : w2.frozen? ⟨w.heap.size, 0, none⟩ = false := frozen_of_row _ _ 0 _ _ HZ2.out
  have z1 : w2.cell? ⟨w.heap.size, 1, none⟩ = some (.slice none 0 0) := cell_of_row _ _ 1 _ _ _ HZ2.out
  have zf1 : w2.frozen? ⟨w.heap.size, 1, none⟩ = false := frozen_of_row _ _ 1 _ _ HZ2.out
  have HS := Lib.hid (blk_set (blk_set HZ2.out 0 (.int .i64 0)) 1 (.slice none 0 0))
  have HBF := Lib.hid ((hB2.setCell (p := ⟨w.heap.size, 0, none⟩) (Nat.le_refl _) (.int .i64 0)).setCell (p := ⟨w.heap.size, 1, none⟩) (Nat.le_refl _) (.slice none 0 0))
  go_wp2
  refine bodyPost_ret (results_cell2 rfl _ _ w.heap.size _ _ _ _ rfl HS.out Tryd.underlying30 rfl (by kernel_rfl)) rfl ?_
  exact retDir_no HF.out HBF.out
 have hz1 : ((l.length : Int) == 0) = false := by
  cases e : ((l.length : Int) == 0)
  ·rfl
  ·rw [beq_iff_eq] at e; omega
 obtain ⟨b1, o1, rfl⟩ := HROW.out h0
 obtain ⟨xa, xc, xf, x0, x1, x2, x3, xR, hbb, -⟩ := tok_at HL2.out (j := 0) h0
 have HQ := spec_l7Is _ l[0] xf w2 35 xR
 rw [show (decide (l[0].kind = 4) && (l[0].text.toList == [35])) = mkAt l 0 [35] by rw [mkD_in h0]; rfl] at HQ
 have HQH := Lib.hid HQ
 have i1 : (0 : Int) < (l.length : Int) := by omega
 simp only [Nat.zero_mul, Nat.add_zero] at x0 x1 x2 x3
 clear HQ xR hbb
 cases hm0 : mkAt l 0 [35]
 ·have HF := Lib.hid (dir_plain HVV.out hm0)
  rw [hm0] at HQH
  clear hm0
  go_wp2_with fail
  refine HQH.out.mono ?_
  rintro e w3 ⟨rfl, hb3⟩
  have hB3 := hB2.trans (hb3.mono hB2.size)
  have HZ3 := Lib.hid (mbox HZ2.out hb3)
  clear x0 x1 x2 x3
  have z0 : w3.cell? ⟨w.heap.size, 0, none⟩ = some (.int .i64 0) := cell_of_row _ _ 0 _ _ _ HZ3.out
  have zf0 : w3.frozen? ⟨w.heap.size, 0, none⟩ = false := frozen_of_row _ _ 0 _ _ HZ3.out
  have z1 : w3.cell? ⟨w.heap.size, 1, none⟩ = some (.slice none 0 0) := cell_of_row _ _ 1 _ _ _ HZ3.out
  have zf1 : w3.frozen? ⟨w.heap.size, 1, none⟩ = false := frozen_of_row _ _ 1 _ _ HZ3.out
  have HS := Lib.hid (blk_set (blk_set HZ3.out 0 (.int .i64 0)) 1 (.slice none 0 0))
  have HBF := Lib.hid ((hB3.setCell (p := ⟨w.heap.size, 0, none⟩) (Nat.le_refl _) (.int .i64 0)).setCell (p := ⟨w.heap.size, 1, none⟩) (Nat.le_refl _) (.slice none 0 0))
  go_wp2
  refine bodyPost_ret (results_cell2 rfl _ _ w.heap.size _ _ _ _ rfl HS.out Tryd.underlying30 rfl (by kernel_rfl)) rfl ?_
  exact retDir_no HF.out HBF.out
 rw [hm0] at HQH
 have HM0 := Lib.hid hm0
 clear hm0
 go_wp2_with fail
 refine HQH.out.mono ?_
 rintro e w3 ⟨rfl, hb3⟩
 have hB3 := hB2.trans (hb3.mono hB2.size)
 have HZ3 := Lib.hid (mbox HZ2.out hb3)
 have HL3 := Lib.hid ((sSlice sTok).below HL2.out hb3)
 clear x0 x1 x2 x3 hb3 HQH HZ2 HL2 hB2
 by_cases h1 : 1 < l.length
 rotate_left
 ·have HF := Lib.hid (dir_one HVV.out HM0.out h1)
  have j1 : ¬ (1 : Int) < (l.length : Int) := by omega
  have j2 : decide ((1 : Int) < (l.length : Int)) = false := decide_eq_false j1
  go_wp2
  go_loopw [4] (fun vk wr => vk = .int .i64 1 ∧ Hid (wr = w3)) (fun _ _ => 0)
  case atStart => exact ⟨rfl, Lib.hid rfl⟩
  case round =>
   obtain ⟨rfl, HW⟩ := hrel
   obtain rfl : wr = w3 := HW.out
   have z0 : wr.cell? ⟨w.heap.size, 0, none⟩ = some (.int .i64 0) := cell_of_row _ _ 0 _ _ _ HZ3.out
   have zf0 : wr.frozen? ⟨w.heap.size, 0, none⟩ = false := frozen_of_row _ _ 0 _ _ HZ3.out
   have z1 : wr.cell? ⟨w.heap.size, 1, none⟩ = some (.slice none 0 0) := cell_of_row _ _ 1 _ _ _ HZ3.out
   have zf1 : wr.frozen? ⟨w.heap.size, 1, none⟩ = false := frozen_of_row _ _ 1 _ _ HZ3.out
   have HS := Lib.hid (blk_set (blk_set HZ3.out 0 (.int .i64 0)) 1 (.slice none 0 0))
   have HBF := Lib.hid ((hB3.setCell (p := ⟨w.heap.size, 0, none⟩) (Nat.le_refl _) (.int .i64 0)).setCell (p := ⟨w.heap.size, 1, none⟩) (Nat.le_refl _) (.slice none 0 0))
   go_wp2
   refine bodyPost_ret (results_cell2 rfl _ _ w.heap.size _ _ _ _ rfl HS.out Tryd.underlying30 rfl (by kernel_rfl)) rfl ?_
   exact retDir_no HF.out HBF.out
 have HH1 := Lib.hid h1
 have j1 : (1 : Int) < (l.length : Int) := by omega
 have j2 : decide ((1 : Int) < (l.length : Int)) = true := decide_eq_true j1
 obtain ⟨ya, yc, yf, y0, y1, y2, y3, yR, hbb, -⟩ := tok_at HL3.out (j := 1) h1
 obtain ⟨tk, HTK⟩ : ∃ tk : Tok, Hid (tk = l[1]) := ⟨_, Lib.hid rfl⟩
 rw [show l[1] = tk from HTK.out.symm] at y0 y1 y2 y3 yR
 simp only [Nat.one_mul] at y0 y1 y2 y3
 have HY : Hid (∀ Q : World, Below w3.heap.size w3 Q → Q.cell? ⟨b1, o1 + 4, none⟩ = some (.int .i64 tk.kind) ∧ Q.cell? ⟨b1, o1 + 4 + 1, none⟩ = some (.string tk.text)) := fun Q hQ => ⟨(hQ.cell (p := ⟨b1, o1 + 4, none⟩) hbb).trans y0, (hQ.cell (p := ⟨b1, o1 + 4 + 1, none⟩) hbb).trans y1⟩
 clear y0 y1 y2 y3 yR
 obtain ⟨X, HX⟩ : ∃ X : List UInt8, Hid (X = tk.text.toList) := ⟨_, Lib.hid rfl⟩
 have HKX2 : Hid (kindAt l[1].text.toList 1 = kindAt X 1) := by show _ = _; rw [HX.out, HTK.out]
 go_wp2
 go_loopw [4] (fun vk wr => ∃ k : Nat, 1 ≤ k ∧ k ≤ 11 ∧ vk = .int .i64 k ∧ Hid (kindAt X 1 = kindAt X k ∨ tk.kind ≠ 1) ∧ Hid (Below w3.heap.size w3 wr)) (fun vk _ => 11 - (intOf vk).toNat)
 case atStart => exact ⟨1, by omega, by omega, rfl, Lib.hid (.inl rfl), Lib.hid (Below.refl _ _)⟩
 case round =>
  obtain ⟨k, hk1, hk11, rfl, HK, HW⟩ := hrel
  have hBr := hB3.trans (HW.out.mono hB3.size)
  have HZr := Lib.hid (mbox HZ3.out HW.out)
  by_cases hk10 : k ≤ 10
  rotate_left
  ·have HF : Hid (dirRes l = ((0, []), false)) := dir_no HVV.out HM0.out HH1.out (fun h => by
    rcases HK.out with h9 | h9
    ·exact absurd (HKX2.out.trans (h9.trans (kindAt_out (by omega)))) h.2.1
    ·exact h9 (by rw [HTK.out]; exact h.1))
   have e1 : ¬ (k : Int) ≤ 10 := by omega
   have e2 : decide ((k : Int) ≤ 10) = false := decide_eq_false e1
   clear hk10
   have z0 : wr.cell? ⟨w.heap.size, 0, none⟩ = some (.int .i64 0) := cell_of_row _ _ 0 _ _ _ HZr.out
   have zf0 : wr.frozen? ⟨w.heap.size, 0, none⟩ = false := frozen_of_row _ _ 0 _ _ HZr.out
   have z1 : wr.cell? ⟨w.heap.size, 1, none⟩ = some (.slice none 0 0) := cell_of_row _ _ 1 _ _ _ HZr.out
   have zf1 : wr.frozen? ⟨w.heap.size, 1, none⟩ = false := frozen_of_row _ _ 1 _ _ HZr.out
   have HS := Lib.hid (blk_set (blk_set HZr.out 0 (.int .i64 0)) 1 (.slice none 0 0))
   have HBF := Lib.hid ((hBr.setCell (p := ⟨w.heap.size, 0, none⟩) (Nat.le_refl _) (.int .i64 0)).setCell (p := ⟨w.heap.size, 1, none⟩) (Nat.le_refl _) (.slice none 0 0))
   go_wp2
   refine bodyPost_ret (results_cell2 rfl _ _ w.heap.size _ _ _ _ rfl HS.out Tryd.underlying30 rfl (by kernel_rfl)) rfl ?_
   exact retDir_no HF.out HBF.out
  have e1 : (k : Int) ≤ 10 := by omega
  have e2 : decide ((k : Int) ≤ 10) = true := decide_eq_true e1
  have hwk : IntKind.i64.wrap ((k : Int) + 1) = ((k + 1 : Nat) : Int) := by rw [IntWalk.i64_in _ (by omega)]; omega
  obtain ⟨y0, y1⟩ := HY.out wr HW.out
  by_cases hkd : tk.kind = 1
  rotate_left
  ·have e3 : (tk.kind == 1) = false := by simp [hkd]
   have HNK := Lib.hid hkd
   clear hkd
   go_wp2_with fail
   go_quiet (fail)
   have hbq := belowN (Below.refl wr.heap.size wr) nq
   have HWq := Lib.hid (HW.out.trans (hbq.mono HW.out.size))
   clear y0 y1
   generalize wr.drewN nq = wq at *
   go_wp2
   go_roundw
   case rel => exact ⟨k + 1, by omega, by omega, by go_num, Lib.hid (.inr HNK.out), HWq⟩
   case measure => simp [intOf]; omega
  have e3 : (tk.kind == 1) = true := by simp [hkd]
  have HKD := Lib.hid hkd
  have HKI : Hid (kindAt X 1 = kindAt X k) := by
   rcases HK.out with h | h
   ·exact h
   ·exact absurd HKD.out h
  clear hkd HK
  have HKT := Lib.hid (fun (Q : World) => spec_kindT (k : Int) Q)
  obtain ⟨kx, HKX⟩ : ∃ kx : ByteArray, Hid (kx = kindRes (k : Int)) := ⟨_, Lib.hid rfl⟩
  rw [show kindRes (k : Int) = kx from HKX.out.symm] at HKT
  clear y0 y1
  go_upto_region 9 with fail
  have hcs : Below w3.heap.size w3 wr.drew := HW.out.trans (belowN (Below.refl _ _) 1 |>.mono HW.out.size)
  refine wp_region_noPanic ?_
  refine wp_region_held_drew (S := fun w' => w'.cell? ⟨b1, o1 + 4, none⟩ = some (.int .i64 tk.kind) ∧ w'.cell? ⟨b1, o1 + 4 + 1, none⟩ = some (.string tk.text)) (by kernel_rfl) (by exact HY.out _ hcs) (fun hHeld => ?_)
  generalize hwd : wr.drew = wd at *
  refine takeH2 0 32 (v := ?_) rfl rfl (by kernel_rfl) (by kernel_rfl) (by kernel_rfl) (fun _ _ _ h => h) (by rfl) (by assumption) ?_ ?_
  rotate_left
  ·intro w hSw; go_simp; (first | done | with_reducible rfl | rfl)
  try simp only [Act.put, List.setIfInBounds_toArray, List.set_cons_zero, List.set_cons_succ]
  refine takeH2 1 33 (v := ?_) rfl rfl (by kernel_rfl) (by kernel_rfl) (by kernel_rfl) (fun _ _ _ h => h) (by rfl) (by assumption) ?_ ?_
  rotate_left
  ·intro w hSw; go_simp; (first | done | with_reducible rfl | rfl)
  try simp only [Act.put, List.setIfInBounds_toArray, List.set_cons_zero, List.set_cons_succ]
  refine takeH2 2 34 (v := ?_) rfl rfl (by kernel_rfl) (by kernel_rfl) (by kernel_rfl) (fun _ _ _ h => h) (by rfl) (by assumption) ?_ ?_
  rotate_left
  ·intro w hSw; go_simp; (first | done | with_reducible rfl | rfl)
  try simp only [Act.put, List.setIfInBounds_toArray, List.set_cons_zero, List.set_cons_succ]
  refine takeH2 3 35 (v := ?_) rfl rfl (by kernel_rfl) (by kernel_rfl) (by kernel_rfl) (fun _ _ _ h => h) (by rfl) (by assumption) ?_ ?_
  rotate_left
  ·intro w hSw; obtain ⟨y0, y1⟩ := hSw; go_simp; (first | done | with_reducible rfl | rfl)
  try simp only [Act.put, List.setIfInBounds_toArray, List.set_cons_zero, List.set_cons_succ]
  refine takeH2 4 36 (v := ?_) rfl rfl (by kernel_rfl) (by kernel_rfl) (by kernel_rfl) (fun _ _ _ h => h) (by rfl) (by assumption) ?_ ?_
  rotate_left
  ·intro w hSw; go_simp; (first | done | with_reducible rfl | rfl)
  try simp only [Act.put, List.setIfInBounds_toArray, List.set_cons_zero, List.set_cons_succ]
  refine takeH2 5 37 (v := ?_) rfl rfl (by kernel_rfl) (by kernel_rfl) (by kernel_rfl) (fun _ _ _ h => h) (by rfl) (by assumption) ?_ ?_
  rotate_left
  ·intro w hSw; go_simp; (first | done | with_reducible rfl | rfl)
  try simp only [Act.put, List.setIfInBounds_toArray, List.set_cons_zero, List.set_cons_succ]
  refine takeH2 6 38 (v := ?_) rfl rfl (by kernel_rfl) (by kernel_rfl) (by kernel_rfl) (fun _ _ _ h => h) (by rfl) (by assumption) ?_ ?_
  rotate_left
  ·intro w hSw; go_simp; (first | done | with_reducible rfl | rfl)
  try simp only [Act.put, List.setIfInBounds_toArray, List.set_cons_zero, List.set_cons_succ]
  refine takeH2 7 39 (v := ?_) rfl rfl (by kernel_rfl) (by kernel_rfl) (by kernel_rfl) (fun _ _ _ h => h) (by rfl) (by assumption) ?_ ?_
  rotate_left
  ·intro w hSw; go_simp; (first | done | with_reducible rfl | rfl)
  try simp only [Act.put, List.setIfInBounds_toArray, List.set_cons_zero, List.set_cons_succ]
  refine takeH2 8 40 (v := ?_) rfl rfl (by kernel_rfl) (by kernel_rfl) (by kernel_rfl) (fun _ _ _ h => h) (by rfl) (by assumption) ?_ ?_
  rotate_left
  ·intro w hSw; go_simp; (first | done | with_reducible rfl | rfl)
  try simp only [Act.put, List.setIfInBounds_toArray, List.set_cons_zero, List.set_cons_succ]
  refine takeH2 9 41 (v := ?_) rfl rfl (by kernel_rfl) (by kernel_rfl) (by kernel_rfl) (fun _ _ _ h => h) (by rfl) (by assumption) ?_ ?_
  rotate_left
  ·intro w hSw; obtain ⟨y0, y1⟩ := hSw; go_simp; (first | done | with_reducible rfl | rfl)
  try simp only [Act.put, List.setIfInBounds_toArray, List.set_cons_zero, List.set_cons_succ]
  refine takeH2 10 42 (v := ?_) rfl rfl (by kernel_rfl) (by kernel_rfl) (by kernel_rfl) (fun _ _ _ h => h) (by rfl) (by assumption) ?_ ?_
  rotate_left
  ·intro w hSw; go_simp; (first | done | with_reducible rfl | rfl)
  try simp only [Act.put, List.setIfInBounds_toArray, List.set_cons_zero, List.set_cons_succ]
  refine wpAnyH_ready (rs := [11]) (by kernel_rfl) (by simp) ?_
  refine AllReadyH.cons rfl (fun K hK => ?_) AllReadyH.nil
  go_simp
  refine (HKT.out wd).mono ?_
  rintro e w5 ⟨rfl, hb5⟩
  have hx5 := hcs.trans (hb5.mono hcs.size)
  refine hK.out _ _ (HY.out _ hx5) (fun hHeld => ?_)
  clear hK K
  try simp only [Act.put, List.setIfInBounds_toArray, List.set_cons_zero, List.set_cons_succ]
  refine takeH2 12 44 (v := ?_) rfl rfl (by kernel_rfl) (by kernel_rfl) (by kernel_rfl) (fun _ _ _ h => h) (by rfl) (by assumption) ?_ ?_
  rotate_left
  ·intro w hSw; go_simp; (first | done | with_reducible rfl | rfl)
  try simp only [Act.put, List.setIfInBounds_toArray, List.set_cons_zero, List.set_cons_succ]
  refine takeH2 13 45 (v := ?_) rfl rfl (by kernel_rfl) (by kernel_rfl) (by kernel_rfl) (fun _ _ _ h => h) (by rfl) (by assumption) ?_ ?_
  rotate_left
  ·intro w hSw; go_simp; (first | done | with_reducible rfl | rfl)
  try simp only [Act.put, List.setIfInBounds_toArray, List.set_cons_zero, List.set_cons_succ]
  refine wpAnyH_done (by kernel_rfl) ?_ _
  refine NoPanic.normal ?_
  clear hHeld
  have hB5 := hB3.trans (hx5.mono hB3.size)
  have HZ5 := Lib.hid (mbox HZ3.out hx5)
  have HL5 := Lib.hid ((sSlice sTok).below HL3.out hx5)
  have HX5 := Lib.hid hx5
  clear HKT HZr hBr hwd hcs HW
  cases e5 : (tk.text.toList == kx.toList)
  ·have hkx : X ≠ kindTx k := fun h => by
    rw [← HX.out, h, HKX.out, kindRes_in hk1 hk10, ByteArray.toList_eq] at e5
    simp at e5
   have HKN : Hid (kindAt X 1 = kindAt X (k + 1)) := HKI.out.trans (kindAt_next hk10 hkx)
   clear hkx e5
   go_wp2
   go_roundw
   case rel => exact ⟨k + 1, by omega, by omega, by go_num, Lib.hid (.inl HKN.out), HX5⟩
   case measure => simp [intOf]; omega
  have hkx : X = kindTx k := by
   have h9 := beq_iff_eq.1 e5
   rw [HX.out, h9, HKX.out, kindRes_in hk1 hk10, ByteArray.toList_eq]
  have HKA : Hid (kindAt l[1].text.toList 1 = k) := HKX2.out.trans (HKI.out.trans (kindAt_hit hk10 hkx))
  have HKD2 : Hid (l[1].kind = 1) := by have h9 := HKD.out; rw [HTK.out] at h9; exact h9
  clear hkx HKI e5
  obtain ⟨fd, RD, hfd⟩ := slice_drop 2 (by omega) HL5.out
  rw [Option.map_some, Addr.add_lit, show sTok.m = 4 from rfl] at RD
  have ba := alloc_below' w5 (.cells #[] 47)
  have HO0 := Lib.hid (RowN.lit0 sTok 47 w5 (Nat.le_refl _))
  have HRD := Lib.hid ((sSlice sTok).below RD ba)
  have HFD := Lib.hid hfd
  have HLT := Lib.hid ((sSlice sTok).lt HL5.out)
  have s2 : (2 : Int) ≤ (l.length : Int) := by omega
  have s3 : 2 ≤ l.length := by omega
  have s4 : 2 ≤ cap := by omega
  have s5 : (2 : Int) ≤ (cap : Int) := by omega
  clear RD hfd
  by_cases hcap : cap = 2
  ·subst hcap
   rw [if_pos rfl, show l.length - 2 = 0 by omega] at HRD
   go_upto_region 11 with (at_builtin; refine wp_append_anyN ti_tok rfl (by decide) tok_one1 _ rfl (.tmp 47) (.tmp 49) rfl w5.heap.size (.slice (some ⟨w5.heap.size, 0, none⟩) 0 0) (.slice (some ⟨b1, o1, none⟩) 0 0) (l.drop 2) fd rfl HO0.out rfl HRD.out (fun b hb e => by simp only [Value.ownBlock, Option.some.injEq] at e; have := HLT.out b (HFD.out b hb); omega) (by unfold maxLen; rw [List.length_drop]; simp; omega) (by rw [List.length_drop]; simp; omega) ba.size ?_; intro v6 Y w6 hY hYf hR6 hg6 hp6; rw [List.nil_append] at hR6; obtain ⟨a6, c6, hv6, -⟩ := hR6.val; subst hv6)
   obtain ⟨f6, r6, rf6, -⟩ := hR6.read
   rw [hY] at r6
   have hb6 : Below w5.heap.size w5 w6 := ba.grown hg6 ba.size (fun b hb => by simp only [Value.ownBlock, Option.some.injEq] at hb; omega)
   have HWS : Hid (w.heap.size + 1 ≤ w5.heap.size) := by
    have h9 := mlt HZ5.out
    show _ ≤ _
    omega
   have HF6 : Hid (∀ b ∈ f6, w.heap.size + 1 ≤ b) := fun b hb => by
    rcases rf6 b hb with h | ⟨x, hx, h⟩
    ·have h8 := (hR6.mine b h).1
     have h9 := HWS.out
     omega
    ·exact LO1.out b (HFD.out b (hYf x hx b h))
   have HB6 := Lib.hid (hB5.trans (hb6.mono hB5.size))
   have HZ6 := Lib.hid (mbox HZ5.out hb6)
   have bB := alloc_below' w6 (.cells #[.int .i64 (k : Nat), .slice a6 Y.length c6] 30)
   have HBX := Lib.hid (heap_alloc_new w6 (.cells #[.int .i64 (k : Nat), .slice a6 Y.length c6] 30))
   have HR7 := Lib.hid ((sSlice sTok).below r6 bB)
   have HZ7 := Lib.hid (mbox HZ6.out bB)
   have HB7 := Lib.hid (HB6.out.trans (bB.mono HB6.out.size))
   obtain ⟨N, HN⟩ : ∃ N : Nat, Hid (N = Y.length) := ⟨_, Lib.hid rfl⟩
   have HLR := Lib.hid (spec_l14Rest hk1 hk10 _ (l.drop 2) f6 _ (by rw [List.length_drop]; omega) (fun j hj => by rw [List.getElem_drop]; exact HXX.out _ _) HR7.out)
   rw [show Y.length = N from HN.out.symm] at HBX HR7 HZ7 HB7 HLR ⊢
   clear hR6 r6 rf6 hg6 hp6 hb6 hY hYf bB HZ6 HB6 HZ5 HX5 hB5
   generalize (w6.alloc (.cells #[.int .i64 (k : Nat), .slice a6 N c6] 30)) = w7 at *
   obtain ⟨bx, HBB⟩ : ∃ bx : Nat, Hid (bx = w6.heap.size) := ⟨_, Lib.hid rfl⟩
   rw [show w6.heap.size = bx from HBB.out.symm] at HBX ⊢
   have p0 := cell_of_row w7 bx 0 _ _ _ HBX.out
   have p1 := cell_of_row w7 bx 1 _ _ _ HBX.out
   cases hr : restOk k (l.drop 2)
   ·have HF : Hid (dirRes l = ((0, []), false)) := dir_no HVV.out HM0.out HH1.out (fun h => by have h9 : restOk k (l.drop 2) = true := (congrArg (fun q => restOk q (l.drop 2)) HKA.out).symm.trans h.2.2; rw [hr] at h9; exact absurd h9 (by simp))
    rw [hr] at HLR
    clear hr
    go_wp2_with fail
    refine HLR.out.mono ?_
    rintro e w8 ⟨rfl, hb8⟩
    have hB8 := HB7.out.trans (hb8.mono HB7.out.size)
    have HZ8 := Lib.hid (mbox HZ7.out hb8)
    clear p0 p1
    have z0 : w8.cell? ⟨w.heap.size, 0, none⟩ = some (.int .i64 0) := cell_of_row _ _ 0 _ _ _ HZ8.out
    have zf0 : w8.frozen? ⟨w.heap.size, 0, none⟩ = false := frozen_of_row _ _ 0 _ _ HZ8.out
    have z1 : w8.cell? ⟨w.heap.size, 1, none⟩ = some (.slice none 0 0) := cell_of_row _ _ 1 _ _ _ HZ8.out
    have zf1 : w8.frozen? ⟨w.heap.size, 1, none⟩ = false := frozen_of_row _ _ 1 _ _ HZ8.out
    have HS := Lib.hid (blk_set (blk_set HZ8.out 0 (.int .i64 0)) 1 (.slice none 0 0))
    have HBF := Lib.hid ((hB8.setCell (p := ⟨w.heap.size, 0, none⟩) (Nat.le_refl _) (.int .i64 0)).setCell (p := ⟨w.heap.size, 1, none⟩) (Nat.le_refl _) (.slice none 0 0))
    go_wp2
    refine bodyPost_ret (results_cell2 rfl _ _ w.heap.size _ _ _ _ rfl HS.out Tryd.underlying30 rfl (by kernel_rfl)) rfl ?_
    exact retDir_no HF.out HBF.out
   have HF := Lib.hid (dir_yes HVV.out HM0.out HH1.out HKD2.out HKA.out (by omega) hr)
   rw [hr] at HLR
   clear hr
   go_wp2_with fail
   refine HLR.out.mono ?_
   rintro e w8 ⟨rfl, hb8⟩
   have hB8 := HB7.out.trans (hb8.mono HB7.out.size)
   have HZ8 := Lib.hid (mbox HZ7.out hb8)
   have HBX8 := Lib.hid (mbox HBX.out hb8)
   have HR8 := Lib.hid ((sSlice sTok).below HR7.out hb8)
   clear p0 p1 hb8 HLR
   have p0 := cell_of_row w8 bx 0 _ _ _ HBX8.out
   have p1 := cell_of_row w8 bx 1 _ _ _ HBX8.out
   have z0 : w8.cell? ⟨w.heap.size, 0, none⟩ = some (.int .i64 0) := cell_of_row _ _ 0 _ _ _ HZ8.out
   have zf0 : w8.frozen? ⟨w.heap.size, 0, none⟩ = false := frozen_of_row _ _ 0 _ _ HZ8.out
   have z1 : w8.cell? ⟨w.heap.size, 1, none⟩ = some (.slice none 0 0) := cell_of_row _ _ 1 _ _ _ HZ8.out
   have zf1 : w8.frozen? ⟨w.heap.size, 1, none⟩ = false := frozen_of_row _ _ 1 _ _ HZ8.out
   have HS := Lib.hid (blk_set (blk_set HZ8.out 0 (.int .i64 (k : Nat))) 1 (.slice a6 N c6))
   have HBF := Lib.hid ((hB8.setCell (p := ⟨w.heap.size, 0, none⟩) (Nat.le_refl _) (.int .i64 (k : Nat))).setCell (p := ⟨w.heap.size, 1, none⟩) (Nat.le_refl _) (.slice a6 N c6))
   have hnf : w.heap.size ∉ f6 := fun h => by have := HF6.out _ h; omega
   have HRF := Lib.hid ((sSlice sTok).setB ((sSlice sTok).setB HR8.out hnf 0 (.int .i64 (k : Nat))) hnf 1 (.slice a6 N c6))
   go_wp2
   refine bodyPost_ret (results_cell2 rfl _ _ w.heap.size _ _ _ _ rfl HS.out Tryd.underlying30 rfl (by kernel_rfl)) rfl ?_
   exact ⟨.slice a6 N c6, f6, by rw [HF.out]; rfl, by rw [HF.out]; exact HRF.out, fun b hb => by have := HF6.out b hb; omega, HBF.out⟩
  rw [if_neg hcap] at HRD
  go_upto_region 11 with (at_builtin; refine wp_append_anyN ti_tok rfl (by decide) tok_one1 _ rfl (.tmp 47) (.tmp 49) rfl w5.heap.size (.slice (some ⟨w5.heap.size, 0, none⟩) 0 0) (.slice (some ⟨b1, o1 + 2 * 4, none⟩) (l.length - 2) (cap - 2)) (l.drop 2) fd rfl HO0.out rfl HRD.out (fun b hb e => by simp only [Value.ownBlock, Option.some.injEq] at e; have := HLT.out b (HFD.out b hb); omega) (by unfold maxLen; rw [List.length_drop]; simp; omega) (by rw [List.length_drop]; simp; omega) ba.size ?_; intro v6 Y w6 hY hYf hR6 hg6 hp6; rw [List.nil_append] at hR6; obtain ⟨a6, c6, hv6, -⟩ := hR6.val; subst hv6)
  obtain ⟨f6, r6, rf6, -⟩ := hR6.read
  rw [hY] at r6
  have hb6 : Below w5.heap.size w5 w6 := ba.grown hg6 ba.size (fun b hb => by simp only [Value.ownBlock, Option.some.injEq] at hb; omega)
  have HWS : Hid (w.heap.size + 1 ≤ w5.heap.size) := by
   have h9 := mlt HZ5.out
   show _ ≤ _
   omega
  have HF6 : Hid (∀ b ∈ f6, w.heap.size + 1 ≤ b) := fun b hb => by
   rcases rf6 b hb with h | ⟨x, hx, h⟩
   ·have h8 := (hR6.mine b h).1
    have h9 := HWS.out
    omega
   ·exact LO1.out b (HFD.out b (hYf x hx b h))
  have HB6 := Lib.hid (hB5.trans (hb6.mono hB5.size))
  have HZ6 := Lib.hid (mbox HZ5.out hb6)
  have bB := alloc_below' w6 (.cells #[.int .i64 (k : Nat), .slice a6 Y.length c6] 30)
  have HBX := Lib.hid (heap_alloc_new w6 (.cells #[.int .i64 (k : Nat), .slice a6 Y.length c6] 30))
  have HR7 := Lib.hid ((sSlice sTok).below r6 bB)
  have HZ7 := Lib.hid (mbox HZ6.out bB)
  have HB7 := Lib.hid (HB6.out.trans (bB.mono HB6.out.size))
  obtain ⟨N, HN⟩ : ∃ N : Nat, Hid (N = Y.length) := ⟨_, Lib.hid rfl⟩
  have HLR := Lib.hid (spec_l14Rest hk1 hk10 _ (l.drop 2) f6 _ (by rw [List.length_drop]; omega) (fun j hj => by rw [List.getElem_drop]; exact HXX.out _ _) HR7.out)
  rw [show Y.length = N from HN.out.symm] at HBX HR7 HZ7 HB7 HLR ⊢
  clear hR6 r6 rf6 hg6 hp6 hb6 hY hYf bB HZ6 HB6 HZ5 HX5 hB5
  generalize (w6.alloc (.cells #[.int .i64 (k : Nat), .slice a6 N c6] 30)) = w7 at *
  obtain ⟨bx, HBB⟩ : ∃ bx : Nat, Hid (bx = w6.heap.size) := ⟨_, Lib.hid rfl⟩
  rw [show w6.heap.size = bx from HBB.out.symm] at HBX ⊢
  have p0 := cell_of_row w7 bx 0 _ _ _ HBX.out
  have p1 := cell_of_row w7 bx 1 _ _ _ HBX.out
  cases hr : restOk k (l.drop 2)
  ·have HF : Hid (dirRes l = ((0, []), false)) := dir_no HVV.out HM0.out HH1.out (fun h => by have h9 : restOk k (l.drop 2) = true := (congrArg (fun q => restOk q (l.drop 2)) HKA.out).symm.trans h.2.2; rw [hr] at h9; exact absurd h9 (by simp))
   rw [hr] at HLR
   clear hr
   go_wp2_with fail
   refine HLR.out.mono ?_
   rintro e w8 ⟨rfl, hb8⟩
   have hB8 := HB7.out.trans (hb8.mono HB7.out.size)
   have HZ8 := Lib.hid (mbox HZ7.out hb8)
   clear p0 p1
   have z0 : w8.cell? ⟨w.heap.size, 0, none⟩ = some (.int .i64 0) := cell_of_row _ _ 0 _ _ _ HZ8.out
   have zf0 : w8.frozen? ⟨w.heap.size, 0, none⟩ = false := frozen_of_row _ _ 0 _ _ HZ8.out
   have z1 : w8.cell? ⟨w.heap.size, 1, none⟩ = some (.slice none 0 0) := cell_of_row _ _ 1 _ _ _ HZ8.out
   have zf1 : w8.frozen? ⟨w.heap.size, 1, none⟩ = false := frozen_of_row _ _ 1 _ _ HZ8.out
   have HS := Lib.hid (blk_set (blk_set HZ8.out 0 (.int .i64 0)) 1 (.slice none 0 0))
   have HBF := Lib.hid ((hB8.setCell (p := ⟨w.heap.size, 0, none⟩) (Nat.le_refl _) (.int .i64 0)).setCell (p := ⟨w.heap.size, 1, none⟩) (Nat.le_refl _) (.slice none 0 0))
   go_wp2
   refine bodyPost_ret (results_cell2 rfl _ _ w.heap.size _ _ _ _ rfl HS.out Tryd.underlying30 rfl (by kernel_rfl)) rfl ?_
   exact retDir_no HF.out HBF.out
  have HF := Lib.hid (dir_yes HVV.out HM0.out HH1.out HKD2.out HKA.out (by omega) hr)
  rw [hr] at HLR
  clear hr
  go_wp2_with fail
  refine HLR.out.mono ?_
  rintro e w8 ⟨rfl, hb8⟩
  have hB8 := HB7.out.trans (hb8.mono HB7.out.size)
  have HZ8 := Lib.hid (mbox HZ7.out hb8)
  have HBX8 := Lib.hid (mbox HBX.out hb8)
  have HR8 := Lib.hid ((sSlice sTok).below HR7.out hb8)
  clear p0 p1 hb8 HLR
  have p0 := cell_of_row w8 bx 0 _ _ _ HBX8.out
  have p1 := cell_of_row w8 bx 1 _ _ _ HBX8.out
  have z0 : w8.cell? ⟨w.heap.size, 0, none⟩ = some (.int .i64 0) := cell_of_row _ _ 0 _ _ _ HZ8.out
  have zf0 : w8.frozen? ⟨w.heap.size, 0, none⟩ = false := frozen_of_row _ _ 0 _ _ HZ8.out
  have z1 : w8.cell? ⟨w.heap.size, 1, none⟩ = some (.slice none 0 0) := cell_of_row _ _ 1 _ _ _ HZ8.out
  have zf1 : w8.frozen? ⟨w.heap.size, 1, none⟩ = false := frozen_of_row _ _ 1 _ _ HZ8.out
  have HS := Lib.hid (blk_set (blk_set HZ8.out 0 (.int .i64 (k : Nat))) 1 (.slice a6 N c6))
  have HBF := Lib.hid ((hB8.setCell (p := ⟨w.heap.size, 0, none⟩) (Nat.le_refl _) (.int .i64 (k : Nat))).setCell (p := ⟨w.heap.size, 1, none⟩) (Nat.le_refl _) (.slice a6 N c6))
  have hnf : w.heap.size ∉ f6 := fun h => by have := HF6.out _ h; omega
  have HRF := Lib.hid ((sSlice sTok).setB ((sSlice sTok).setB HR8.out hnf 0 (.int .i64 (k : Nat))) hnf 1 (.slice a6 N c6))
  go_wp2
  refine bodyPost_ret (results_cell2 rfl _ _ w.heap.size _ _ _ _ rfl HS.out Tryd.underlying30 rfl (by kernel_rfl)) rfl ?_
  exact ⟨.slice a6 N c6, f6, by rw [HF.out]; rfl, by rw [HF.out]; exact HRF.out, fun b hb => by have := HF6.out b hb; omega, HBF.out⟩

end Go.Proofs.YtlegeancmcmbaaaDoor

/- Stripping again changes nothing: lists of bytes alone. -/
namespace Go.Proofs.YtlegeancmcmbaaaDoor
open Go.RowKit

def tLen : List UInt8 → Nat
 | [] => 0
 | [c] => 1
 | c :: d :: r => if c = 34 then 1 else if c = 92 then 2 + tLen r else 1 + tLen (d :: r)
theorem tLen_le : ∀ l, tLen l ≤ l.length
 | [] => by simp [tLen]
 | [c] => by simp [tLen]
 |
  c :: d :: r => by
  have h1 := tLen_le r
  have h2 := tLen_le (d :: r)
  rw [tLen]
  simp only [List.length_cons] at *
  split
  ·omega
  ·split <;> omega
theorem tLen_pos (c : UInt8) (r : List UInt8) : 1 ≤ tLen (c :: r) := by
 cases r with
 | nil => simp [tLen]
 |
  cons d t =>
  rw [tLen]
  split
  ·omega
  ·split <;> omega
theorem tLen_app : ∀ (l : List UInt8), (∀ x, tLen (l.take (tLen l) ++ x) = tLen l) ∨ l.drop (tLen l) = []
 | [] => .inr rfl
 | [c] => .inr rfl
 |
  c :: d :: r => by
  by_cases h1 : c = 34
  ·left
   intro x
   have e : tLen (c :: d :: r) = 1 := by rw [tLen, if_pos h1]
   rw [e]
   cases x with
   | nil => rfl
   | cons y t => simp [tLen, h1]
  ·by_cases h2 : c = 92
   ·have e : tLen (c :: d :: r) = 2 + tLen r := by rw [tLen, if_neg h1, if_pos h2]
    rw [e]
    have e2 : 2 + tLen r = tLen r + 1 + 1 := by omega
    rcases tLen_app r with h | h
    ·left
     intro x
     rw [e2, List.take_succ_cons, List.take_succ_cons, List.cons_append, List.cons_append, tLen, if_neg h1, if_pos h2, h x, e2.symm]
    ·right
     rw [e2, List.drop_succ_cons, List.drop_succ_cons, h]
   ·have e : tLen (c :: d :: r) = 1 + tLen (d :: r) := by rw [tLen, if_neg h1, if_neg h2]
    rw [e]
    have e2 : 1 + tLen (d :: r) = tLen (d :: r) + 1 := by omega
    rcases tLen_app (d :: r) with h | h
    ·left
     intro x
     have hx := h x
     have hp := tLen_pos d r
     rw [e2, List.take_succ_cons, List.cons_append]
     obtain ⟨n, hn⟩ : ∃ n, tLen (d :: r) = n + 1 := ⟨tLen (d :: r) - 1, by omega⟩
     rw [hn] at hx ⊢
     rw [List.take_succ_cons, List.cons_append] at hx ⊢
     rw [tLen, if_neg h1, if_neg h2, hx]
     omega
    ·right
     rw [e2, List.drop_succ_cons, h]
def F (l : List UInt8) : Option (List UInt8) :=
 match l with
 | [] => some []
 |
  c :: r =>
  if [47, 47].isPrefixOf (c :: r) = true then some []
  else if [47, 42].isPrefixOf (c :: r) = true then
   if Lib.index (r.drop 1) [42, 47] < 0 then none else (F (r.drop (1 + (Lib.index (r.drop 1) [42, 47]).toNat + 2))).map (32 :: ·)
  else if c = 34 then (F (r.drop (tLen r))).map ((c :: r.take (tLen r)) ++ ·)
  else (F r).map (c :: ·)
termination_by l.length
decreasing_by
 all_goals simp_wf
 all_goals omega

theorem pre_cons (a b c : UInt8) (r : List UInt8) : [a, b].isPrefixOf (c :: r) = (a == c && [b].isPrefixOf r) := rfl
theorem pre_one (b : UInt8) (r : List UInt8) : [b].isPrefixOf r = true ↔ ∃ t, r = b :: t := by
 cases r with
 | nil => simp
 |
  cons x t =>
  have e : [b].isPrefixOf (x :: t) = (b == x && true) := rfl
  rw [e, Bool.and_true, beq_iff_eq]
  exact ⟨fun h => ⟨t, by rw [h]⟩, fun ⟨t', h⟩ => by cases h; rfl⟩

def Begins (l m : List UInt8) : Prop := m = [] ∨ (∃ x t, m = x :: t ∧ (x = 32 ∨ l.head? = some x))
theorem F_again (l : List UInt8) : ∀ m, F l = some m → F m = some m ∧ Begins l m ∧ m.length ≤ l.length ∧ ∀ x ∈ m, x ∈ l ∨ x = 32 := by
 induction l using F.induct with
 | case1 => intro m h; rw [F] at h; cases h; exact ⟨by rw [F], .inl rfl, by simp, by simp⟩
 | case2 c r h1 => intro m h; rw [F, if_pos h1] at h; cases h; exact ⟨by rw [F], .inl rfl, by simp, by simp⟩
 | case3 c r h1 h2 h3 => intro m h; rw [F, if_neg h1, if_pos h2, if_pos h3] at h; cases h
 |
  case4 c r h1 h2 h3 ih =>
  intro m h
  rw [F, if_neg h1, if_pos h2, if_neg h3] at h
  obtain ⟨m', hm', rfl⟩ := Option.map_eq_some_iff.1 h
  obtain ⟨i1, i2, i3, i4⟩ := ih m' hm'
  refine ⟨?_, .inr ⟨32, m', rfl, .inl rfl⟩, ?_, ?_⟩
  ·rw [F, if_neg (by simp [pre_cons]), if_neg (by simp [pre_cons]), if_neg (by decide), i1]; rfl
  ·simp only [List.length_cons, List.length_drop] at i3 ⊢; omega
  ·intro x hx
   rcases List.mem_cons.1 hx with rfl | hx
   ·exact .inr rfl
   ·rcases i4 x hx with h | h
    ·exact .inl (List.mem_cons_of_mem _ (List.mem_of_mem_drop h))
    ·exact .inr h
 |
  case5 r h1 h2 ih =>
  intro m h
  rw [F, if_neg h1, if_neg h2, if_pos rfl] at h
  obtain ⟨m', hm', rfl⟩ := Option.map_eq_some_iff.1 h
  obtain ⟨i1, i2, i3, i4⟩ := ih m' hm'
  have hl := tLen_le r
  have hlen : (r.take (tLen r)).length = tLen r := by rw [List.length_take]; omega
  have ht : tLen (r.take (tLen r) ++ m') = tLen r := by
   rcases tLen_app r with hd | hd
   ·exact hd m'
   ·rw [hd, F] at hm'
    cases hm'
    have := congrArg List.length hd
    simp only [List.length_drop, List.length_nil] at this
    rw [List.append_nil, List.take_of_length_le (by omega)]
  refine ⟨?_, .inr ⟨34, _, rfl, .inr rfl⟩, ?_, ?_⟩
  ·show F (34 :: (r.take (tLen r) ++ m')) = _
   rw [F, if_neg (by simp [pre_cons]), if_neg (by simp [pre_cons]), if_pos rfl, ht, List.drop_append_of_le_length (by omega), List.drop_of_length_le (by omega), List.nil_append, i1, List.take_append_of_le_length (by omega), List.take_of_length_le (by omega)]
   rfl
  ·simp only [List.length_cons, List.length_append, List.length_drop, hlen] at i3 ⊢; omega
  ·intro x hx
   rcases List.mem_append.1 hx with hx | hx
   ·rcases List.mem_cons.1 hx with rfl | hx
    ·exact .inl (by simp)
    ·exact .inl (List.mem_cons_of_mem _ (List.mem_of_mem_take hx))
   ·rcases i4 x hx with h | h
    ·exact .inl (List.mem_cons_of_mem _ (List.mem_of_mem_drop h))
    ·exact .inr h
 |
  case6 c r h1 h2 h3 ih =>
  intro m h
  rw [F, if_neg h1, if_neg h2, if_neg h3] at h
  obtain ⟨m', hm', rfl⟩ := Option.map_eq_some_iff.1 h
  obtain ⟨i1, i2, i3, i4⟩ := ih m' hm'
  have no : ∀ b : UInt8, b ≠ 32 → ¬ [47, b].isPrefixOf (c :: r) = true → ¬ [47, b].isPrefixOf (c :: m') = true := by
   intro b hb hno hyes
   rw [pre_cons, Bool.and_eq_true] at hyes hno
   obtain ⟨t, rfl⟩ := (pre_one b m').1 hyes.2
   rcases i2 with h | ⟨x, t', he, h⟩
   ·cases h
   ·simp only [List.cons.injEq] at he
    obtain ⟨rfl, rfl⟩ := he
    rcases h with h | h
    ·exact hb h
    ·apply hno
     refine ⟨hyes.1, (pre_one b r).2 ?_⟩
     cases r with
     | nil => cases h
     | cons y r => simp only [List.head?_cons, Option.some.injEq] at h; exact ⟨r, by rw [h]⟩
  refine ⟨?_, .inr ⟨c, m', rfl, .inr rfl⟩, ?_, ?_⟩
  ·rw [F, if_neg (no 47 (by decide) h1), if_neg (no 42 (by decide) h2), if_neg h3, i1]; rfl
  ·simp only [List.length_cons]; omega
  ·intro x hx
   rcases List.mem_cons.1 hx with rfl | hx
   ·exact .inl (by simp)
   ·rcases i4 x hx with h | h
    ·exact .inl (List.mem_cons_of_mem _ h)
    ·exact .inr h

theorem list_len (s : ByteArray) : s.data.toList.length = s.size := Array.length_toList
theorem list_at (s : ByteArray) (k : Nat) (h : k < s.size) : s.data.toList[k]'(by rw [list_len]; exact h) = s[k] := by rw [Array.getElem_toList]; rfl
theorem tEnd_len (s : ByteArray) (k : Nat) : k ≤ s.size → tEnd s k = k + tLen (s.data.toList.drop k) := by
 have hL := list_len s
 induction k using tEnd.induct (s := s) with
 |
  case1 k h hc =>
  intro _
  have e : s.data.toList[k]'(by omega) = 34 := by rw [list_at s k h]; exact UInt8.toNat_inj.1 hc
  rw [tEnd_quote h hc, List.drop_eq_getElem_cons (by omega), e]
  cases s.data.toList.drop (k + 1) <;> simp [tLen]
 |
  case2 k h h1 hc ih =>
  intro _
  have e : s.data.toList[k]'(by omega) = 92 := by rw [list_at s k h]; exact UInt8.toNat_inj.1 hc
  rw [tEnd_back h hc, List.drop_eq_getElem_cons (by omega), e]
  by_cases h2 : k + 1 < s.size
  ·rw [ih (by omega), List.drop_eq_getElem_cons (i := k + 1) (by omega), tLen, if_neg (by decide), if_pos rfl]
   have e3 : k + 2 = k + 1 + 1 := rfl
   rw [e3]
   omega
  ·rw [tEnd_out (by omega), List.drop_of_length_le (by omega)]
   simp [tLen]; omega
 |
  case3 k h h1 h2 ih =>
  intro _
  have e1 : ¬ s.data.toList[k]'(by omega) = 34 := by rw [list_at s k h]; intro e; exact h1 (by rw [e]; rfl)
  have e2 : ¬ s.data.toList[k]'(by omega) = 92 := by rw [list_at s k h]; intro e; exact h2 (by rw [e]; rfl)
  rw [tEnd_else h h1 h2, List.drop_eq_getElem_cons (by omega)]
  by_cases h3 : k + 1 < s.size
  ·rw [ih (by omega), List.drop_eq_getElem_cons (i := k + 1) (by omega), tLen, if_neg e1, if_neg e2]
   omega
  ·rw [tEnd_out (by omega), List.drop_of_length_le (by omega)]
   simp [tLen]; omega
 | case4 k h => intro _; rw [tEnd_out (by omega), List.drop_of_length_le (by omega)]; simp [tLen]; omega

def toB (l : List UInt8) : ByteArray := ⟨l.toArray⟩
theorem toB_app (a b : List UInt8) : toB (a ++ b) = toB a ++ toB b := by apply Go.WideShapes.bytes_inj; simp [toB]
theorem toB_ext (s : ByteArray) (i j : Nat) : s.extract i j = toB ((s.data.toList.drop i).take (j - i)) := by apply Go.WideShapes.bytes_inj; rw [ext_list]; simp [toB]
theorem map_app (o : Option (List UInt8)) (p : ByteArray) (q : List UInt8) (h : p = toB q) : (o.map toB).map (p ++ ·) = (o.map (q ++ ·)).map toB := by
 subst h
 cases o with
 | none => rfl
 | some x => exact congrArg some (toB_app q x).symm
theorem strip1_F (s : ByteArray) (k : Nat) : strip1 s k = (F (s.data.toList.drop k)).map toB := by
 have hL := list_len s
 induction k using strip1.induct (s := s) with
 |
  case1 k h h1 =>
  rw [strip1, dif_pos h, if_pos h1]
  unfold two at h1
  rw [List.drop_eq_getElem_cons (by omega)] at h1 ⊢
  rw [F, if_pos h1]; rfl
 |
  case2 k h h1 h2 h3 =>
  rw [strip1, dif_pos h, if_neg h1, if_pos h2, if_pos h3]
  unfold two at h1 h2
  rw [List.drop_eq_getElem_cons (by omega)] at h1 h2 ⊢
  have hi : Lib.index (s.data.toList.drop (k + 1 + 1)) [42, 47] < 0 := by
   unfold cEnd at h3
   have : k + 2 = k + 1 + 1 := rfl
   rw [this] at h3
   split at h3
   ·assumption
   ·have := Lib.index_ge (s.data.toList.drop (k + 1 + 1)) [42, 47]; omega
  rw [F, if_neg h1, if_pos h2, List.drop_drop, if_pos hi]; rfl
 |
  case3 k h h1 h2 h3 ih =>
  rw [strip1, dif_pos h, if_neg h1, if_pos h2, if_neg h3, ih]
  have hc : cEnd s (k + 2) = (k : Int) + 2 + Lib.index (s.data.toList.drop (k + 1 + 1)) [42, 47] + 2 ∧ ¬ Lib.index (s.data.toList.drop (k + 1 + 1)) [42, 47] < 0 := by
   unfold cEnd at h3 ⊢
   have : k + 2 = k + 1 + 1 := rfl
   rw [this] at h3 ⊢
   split at h3
   ·omega
   ·rename_i hn; rw [if_neg hn]; exact ⟨by omega, hn⟩
  unfold two at h1 h2
  rw [List.drop_eq_getElem_cons (by omega)] at h1 h2
  rw [List.drop_eq_getElem_cons (i := k) (by omega), F, if_neg h1, if_pos h2, List.drop_drop, if_neg hc.2, List.drop_drop, Nat.max_eq_right (by omega), show (cEnd s (k + 2)).toNat = k + 1 + (1 + (Lib.index (s.data.toList.drop (k + 1 + 1)) [42, 47]).toNat + 2) from by omega]
  exact map_app _ _ [32] rfl
 |
  case4 k h h1 h2 h3 ih =>
  rw [strip1, dif_pos h, if_neg h1, if_neg h2, if_pos h3, ih]
  have hb := tEnd_bounds s (k + 1)
  have hb2 := hb.2 (by omega)
  have ht := tEnd_len s (k + 1) (by omega)
  have e : s.data.toList[k]'(by omega) = 34 := by rw [list_at s k h]; exact UInt8.toNat_inj.1 h3
  unfold two at h1 h2
  rw [List.drop_eq_getElem_cons (by omega)] at h1 h2
  rw [List.drop_eq_getElem_cons (i := k) (by omega), F, if_neg h1, if_neg h2, if_pos e, List.drop_drop, Nat.max_eq_right (by omega), ← ht]
  refine map_app _ _ _ ?_
  rw [toB_ext, List.drop_eq_getElem_cons (by omega), show tEnd s (k + 1) - k = tLen (s.data.toList.drop (k + 1)) + 1 from by omega, List.take_succ_cons]
 |
  case5 k h h1 h2 h3 ih =>
  rw [strip1, dif_pos h, if_neg h1, if_neg h2, if_neg h3, ih]
  have e : ¬ s.data.toList[k]'(by omega) = 34 := by rw [list_at s k h]; intro e; exact h3 (by rw [e]; rfl)
  unfold two at h1 h2
  rw [List.drop_eq_getElem_cons (by omega)] at h1 h2
  rw [List.drop_eq_getElem_cons (i := k) (by omega), F, if_neg h1, if_neg h2, if_neg e]
  refine map_app _ _ [_] ?_
  rw [toB_ext, List.drop_eq_getElem_cons (by omega), show k + 1 - k = 0 + 1 from by omega, List.take_succ_cons, List.take_zero]
 | case6 k h => rw [strip1, dif_neg h, List.drop_of_length_le (by omega), F]; rfl

theorem strip_again {s x : ByteArray} (h : stripRes s = (x, true)) : stripRes x = (x, true) ∧ x.size ≤ s.size ∧ lineOk x = true := by
 unfold stripRes at h
 split at h
 ·rename_i h0
  rw [strip1_F, List.drop_zero] at h
  cases hF : F s.data.toList with
  | none => rw [hF] at h; cases h
  |
   some m =>
   rw [hF] at h
   have hx : x = toB m := by
    have : (toB m, true) = (x, true) := h
    exact (Prod.mk.inj this).1.symm
   obtain ⟨a1, _, a3, a4⟩ := F_again _ _ hF
   have hm : x.data.toList = m := by rw [hx]; simp [toB]
   have hsz : x.size ≤ s.size := by rw [← list_len x, ← list_len s, hm]; exact a3
   have hok : lineOk x = true := by
    unfold lineOk at h0 ⊢
    rw [Bool.and_eq_true, decide_eq_true_eq, List.all_eq_true] at h0 ⊢
    refine ⟨by omega, fun b hb => ?_⟩
    rw [hm] at hb
    rcases a4 b hb with h | rfl
    ·exact h0.2 b h
    ·decide
   refine ⟨?_, hsz, hok⟩
   refine stripRes_some hok ?_
   rw [strip1_F, List.drop_zero, hm, a1, hx]; rfl
 ·cases h

end Go.Proofs.YtlegeancmcmbaaaDoor

/- ReadDirective of the model. -/
namespace Go.Proofs.YtlegeancmcmbaaaDoor
open Go.RowKit

theorem tok_hidOkD {t : Tok} (h : tokOk t = true) : t.hidden.length ≤ 60 := by
 unfold tokOk hidOk at h
 simp only [Bool.and_eq_true, decide_eq_true_eq] at h
 omega
theorem strip_size {s : ByteArray} : (stripRes s).1.size ≤ s.size := by
 rcases hq : stripRes s with ⟨x, b⟩
 cases b
 ·have : x = ⟨#[]⟩ := by
   unfold stripRes at hq
   split at hq
   ·split at hq
    ·simp at hq; exact hq.symm
    ·simp at hq
   ·simp at hq; exact hq.symm
  subst this
  exact Nat.zero_le _
 ·exact (strip_again hq).2.1

set_option maxHeartbeats 16000000 in
set_option maxRecDepth 100000 in
theorem spec_ReadDirective (s : ByteArray) (w : World) (hs : s.size ≤ maxLen) : Calls Tryd.prog 15 #[.string s] w (RetDir (readDir s) w) := by
 have hz0 := alloc_below' w (.cells #[.int .i64 0, .slice none 0 0] 30)
 have HZ0 := Lib.hid (heap_alloc_new w (.cells #[.int .i64 0, .slice none 0 0] 30))
 have HC := Lib.hid (fun (Q : World) => spec_StripComments s Q hs)
 have hsz := strip_size (s := s)
 rcases hq : stripRes s with ⟨x, b⟩
 have HQ := Lib.hid hq
 rw [hq] at HC hsz
 try dsimp only at HC hsz
 have HT := Lib.hid (fun (Q : World) => spec_TokensOf x Q (Nat.le_trans hsz hs))
 rcases ht : tokRes x with ⟨l, c⟩
 have HTK := Lib.hid ht
 unfold TokMade at HT
 rw [ht] at HT
 try dsimp only at HT
 clear hq ht hsz
 go_enter Tryd.func15, Tryd.ntmps15
 go_wp2_with fail
 refine (HC.out _).mono ?_
 rintro e w1 ⟨rfl, hb1⟩
 have hB1 := hz0.trans (hb1.mono hz0.size)
 have HZ1 := Lib.hid (mbox HZ0.out hb1)
 go_wp2_with fail
 refine (HT.out _).mono ?_
 rintro e w2 ⟨v2, f2, rfl, hR2, hO2, hb2⟩
 have hB2 := hB1.trans (hb2.mono hB1.size)
 have HZ2 := Lib.hid (mbox HZ1.out hb2)
 obtain ⟨al, cl, rfl, -⟩ := open_rows hR2
 have HR2 := Lib.hid hR2
 clear hR2 hO2 hb1 hb2 hz0 HC HT HZ0 HZ1
 by_cases hbc : b = true ∧ c = true
 rotate_left
 ·have HF : Hid (readDir s = ((0, []), false)) := read_no (fun h => by rw [HQ.out] at h; simp only at h; rw [HTK.out] at h; exact hbc h)
  have z0 : w2.cell? ⟨w.heap.size, 0, none⟩ = some (.int .i64 0) := cell_of_row _ _ 0 _ _ _ HZ2.out
  have zf0 : w2.frozen? ⟨w.heap.size, 0, none⟩ = false := frozen_of_row _ _ 0 _ _ HZ2.out
  have z1 : w2.cell? ⟨w.heap.size, 1, none⟩ = some (.slice none 0 0) := cell_of_row _ _ 1 _ _ _ HZ2.out
  have zf1 : w2.frozen? ⟨w.heap.size, 1, none⟩ = false := frozen_of_row _ _ 1 _ _ HZ2.out
  have HS := Lib.hid (blk_set (blk_set HZ2.out 0 (.int .i64 0)) 1 (.slice none 0 0))
  have HBF := Lib.hid ((hB2.setCell (p := ⟨w.heap.size, 0, none⟩) (Nat.le_refl _) (.int .i64 0)).setCell (p := ⟨w.heap.size, 1, none⟩) (Nat.le_refl _) (.slice none 0 0))
  cases b
  ·go_wp2
   refine bodyPost_ret (results_cell2 rfl _ _ w.heap.size _ _ _ _ rfl HS.out Tryd.underlying30 rfl (by kernel_rfl)) rfl ?_
   exact retDir_no HF.out HBF.out
  ·cases c
   ·go_wp2
    refine bodyPost_ret (results_cell2 rfl _ _ w.heap.size _ _ _ _ rfl HS.out Tryd.underlying30 rfl (by kernel_rfl)) rfl ?_
    exact retDir_no HF.out HBF.out
   ·exact absurd ⟨rfl, rfl⟩ hbc
 obtain ⟨rfl, rfl⟩ := hbc
 have HF := Lib.hid (read_yes HQ.out HTK.out)
 have hv := tokRes_valid HTK.out
 have HD := Lib.hid (spec_DirectiveOf _ l f2 w2 (by have := (toksOk_facts hv).1; omega) (fun k hk => by have := tok_hidOkD ((toksOk_facts hv).2 k hk); omega) HR2.out)
 rcases hd : dirRes l with ⟨⟨k, r⟩, ok⟩
 unfold RetDir at HD
 rw [hd] at HD HF
 try dsimp only at HD
 clear hd hv HR2
 go_wp2_with fail
 refine HD.out.mono ?_
 rintro e w3 ⟨v3, f3, rfl, hR3, hf3, hb3⟩
 obtain ⟨a3, c3, rfl, -⟩ := open_rows hR3
 have hB3 := hB2.trans (hb3.mono hB2.size)
 have HZ3 := Lib.hid (mbox HZ2.out hb3)
 have hlt := mlt HZ2.out
 have hnf : w.heap.size ∉ f3 := fun h => by have := hf3 _ h; omega
 obtain ⟨N, HN⟩ : ∃ N : Nat, Hid (N = r.length) := ⟨_, Lib.hid rfl⟩
 rw [show r.length = N from HN.out.symm] at hR3 ⊢
 have z0 : w3.cell? ⟨w.heap.size, 0, none⟩ = some (.int .i64 0) := cell_of_row _ _ 0 _ _ _ HZ3.out
 have zf0 : w3.frozen? ⟨w.heap.size, 0, none⟩ = false := frozen_of_row _ _ 0 _ _ HZ3.out
 have z1 : w3.cell? ⟨w.heap.size, 1, none⟩ = some (.slice none 0 0) := cell_of_row _ _ 1 _ _ _ HZ3.out
 have zf1 : w3.frozen? ⟨w.heap.size, 1, none⟩ = false := frozen_of_row _ _ 1 _ _ HZ3.out
 have HS := Lib.hid (blk_set (blk_set HZ3.out 0 (.int .i64 k)) 1 (.slice a3 N c3))
 have HBF := Lib.hid ((hB3.setCell (p := ⟨w.heap.size, 0, none⟩) (Nat.le_refl _) (.int .i64 k)).setCell (p := ⟨w.heap.size, 1, none⟩) (Nat.le_refl _) (.slice a3 N c3))
 have HRF := Lib.hid ((sSlice sTok).setB ((sSlice sTok).setB hR3 hnf 0 (.int .i64 k)) hnf 1 (.slice a3 N c3))
 have HFS : Hid (∀ b ∈ f3, w.heap.size ≤ b) := fun b hb => by have := hf3 b hb; have := hB2.size; omega
 clear hR3 hf3 hb3 HD
 go_wp2
 refine bodyPost_ret (results_cell2 rfl _ _ w.heap.size _ _ _ _ rfl HS.out Tryd.underlying30 rfl (by kernel_rfl)) rfl ?_
 exact ⟨.slice a3 N c3, f3, by rw [HF.out]; rfl, by rw [HF.out]; exact HRF.out, HFS.out, HBF.out⟩

end Go.Proofs.YtlegeancmcmbaaaDoor
