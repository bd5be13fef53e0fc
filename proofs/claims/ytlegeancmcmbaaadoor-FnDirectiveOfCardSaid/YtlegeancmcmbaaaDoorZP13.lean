/- Texts that the proof of P stands on, in one file. -/
import Derived.Test.YtlegeancmcmbaaaDoorZP9
import Derived.Test.YtlegeancmcmbaaaDoorZP8
import Derived.Test.YtlegeancmcmbaaaDoorZP11
import Derived.Test.YtlegeancmcmbaaaDoorZP12
import Derived.Test.YtlegeancmcmbaaaDoorZP7
import Derived.Test.YtlegeancmcmbaaaDoorZP3
import Derived.Test.YtlegeancmcmbaaaDoorZP4
import Derived.Test.YtlegeancmcmbaaaDoorZP2
import Derived.Test.YtlegeancmcmbaaaDoorZP5
import Derived.Test.YtlegeancmcmbaaaDoorZP1
import Derived.Test.YtlegeancmcmbaaaDoorShelf
import Derived.HandedShaped
import Derived.OpenVars
import Derived.OpenShut
import Derived.LaidMore
import Derived.Lay
import Derived.ChangeVars
import Derived.Stop.Joined
set_option linter.unusedVariables false
set_option linter.unusedSimpArgs false
/- Directives of the model: names of kinds, what stands behind them. (Made by gen_dir3.py.) -/
namespace Go.Proofs.YtlegeancmcmbaaaDoor
open Go.RowKit

set_option maxHeartbeats 8000000 in
set_option maxRecDepth 100000 in
theorem spec_kindT (k : Int) (w : World) : Calls Tryd.prog 11 #[.int .i64 k] w fun e w' => e = .returned (.string (kindRes k)) ∧ Below w.heap.size w w' := by
 have HI := Lib.hid (spec_l1In k 1 10 w)
 by_cases hk : 1 ≤ k ∧ k ≤ 10
 rotate_left
 ·have HF := Lib.hid (kindRes_out hk)
  rw [show (decide (1 ≤ k) && decide (k ≤ 10)) = false by simp; omega] at HI
  clear hk
  go_enter Tryd.func11, Tryd.ntmps11
  go_wp2_with fail
  refine HI.out.mono ?_
  rintro e w2 ⟨rfl, hb2⟩
  go_wp2
  go_ret
  exact ⟨by rw [HF.out] <;> rfl, hb2⟩
 rw [show (decide (1 ≤ k) && decide (k ≤ 10)) = true by simp; omega] at HI
 have hk10 : k = 1 ∨ k = 2 ∨ k = 3 ∨ k = 4 ∨ k = 5 ∨ k = 6 ∨ k = 7 ∨ k = 8 ∨ k = 9 ∨ k = 10 := by omega
 clear hk
 rcases hk10 with rfl | rfl | rfl | rfl | rfl | rfl | rfl | rfl | rfl | rfl
 ·go_enter Tryd.func11, Tryd.ntmps11
  go_wp2_with fail
  refine HI.out.mono ?_
  rintro e w2 ⟨rfl, hb2⟩
  go_wp2
  go_ret
  exact ⟨rfl, hb2.alloc hb2.size _⟩
 ·go_enter Tryd.func11, Tryd.ntmps11
  go_wp2_with fail
  refine HI.out.mono ?_
  rintro e w2 ⟨rfl, hb2⟩
  go_wp2
  go_ret
  exact ⟨rfl, hb2.alloc hb2.size _⟩
 ·go_enter Tryd.func11, Tryd.ntmps11
  go_wp2_with fail
  refine HI.out.mono ?_
  rintro e w2 ⟨rfl, hb2⟩
  go_wp2
  go_ret
  exact ⟨rfl, hb2.alloc hb2.size _⟩
 ·go_enter Tryd.func11, Tryd.ntmps11
  go_wp2_with fail
  refine HI.out.mono ?_
  rintro e w2 ⟨rfl, hb2⟩
  go_wp2
  go_ret
  exact ⟨rfl, hb2.alloc hb2.size _⟩
 ·go_enter Tryd.func11, Tryd.ntmps11
  go_wp2_with fail
  refine HI.out.mono ?_
  rintro e w2 ⟨rfl, hb2⟩
  go_wp2
  go_ret
  exact ⟨rfl, hb2.alloc hb2.size _⟩
 ·go_enter Tryd.func11, Tryd.ntmps11
  go_wp2_with fail
  refine HI.out.mono ?_
  rintro e w2 ⟨rfl, hb2⟩
  go_wp2
  go_ret
  exact ⟨rfl, hb2.alloc hb2.size _⟩
 ·go_enter Tryd.func11, Tryd.ntmps11
  go_wp2_with fail
  refine HI.out.mono ?_
  rintro e w2 ⟨rfl, hb2⟩
  go_wp2
  go_ret
  exact ⟨rfl, hb2.alloc hb2.size _⟩
 ·go_enter Tryd.func11, Tryd.ntmps11
  go_wp2_with fail
  refine HI.out.mono ?_
  rintro e w2 ⟨rfl, hb2⟩
  go_wp2
  go_ret
  exact ⟨rfl, hb2.alloc hb2.size _⟩
 ·go_enter Tryd.func11, Tryd.ntmps11
  go_wp2_with fail
  refine HI.out.mono ?_
  rintro e w2 ⟨rfl, hb2⟩
  go_wp2
  go_ret
  exact ⟨rfl, hb2.alloc hb2.size _⟩
 ·go_enter Tryd.func11, Tryd.ntmps11
  go_wp2_with fail
  refine HI.out.mono ?_
  rintro e w2 ⟨rfl, hb2⟩
  go_wp2
  go_ret
  exact ⟨rfl, hb2.alloc hb2.size _⟩
end Go.Proofs.YtlegeancmcmbaaaDoor

/- Directives of the model: what stands behind a name. (Made by gen_dir4.py.) -/
namespace Go.Proofs.YtlegeancmcmbaaaDoor
open Go.RowKit

theorem rest_one {r : List Tok} {k : Nat} (hk : k = 2 ∨ k = 4 ∨ k = 5) (h : r.length ≠ 1) : restOk k r = false := by
 match r, h with
 | [], _ => rcases hk with rfl | rfl | rfl <;> rfl
 | [t], h => exact absurd rfl h
 | t :: u :: r, _ => rcases hk with rfl | rfl | rfl <;> rfl
theorem rest_at {r : List Tok} {k : Nat} (hk : k = 2 ∨ k = 4 ∨ k = 5) (h : r.length = 1) : restOk k r = decide ((r[0]'(by omega)).kind = 1) := by
 match r, h with
 | [t], _ => rcases hk with rfl | rfl | rfl <;> rfl
theorem rest9_one {r : List Tok} (h : r.length ≠ 1) : restOk 9 r = false := by
 match r, h with
 | [], _ => rfl
 | [t], h => exact absurd rfl h
 | t :: u :: r, _ => rfl
theorem rest9_at {r : List Tok} (h : r.length = 1) : restOk 9 r = decide ((r[0]'(by omega)).kind = 3) := by
 match r, h with
 | [t], _ => rfl
theorem rest_some {r : List Tok} {k : Nat} (hk : k = 3 ∨ k = 6) : restOk k r = decide (0 < r.length) := by
 cases r <;> (rcases hk with rfl | rfl) <;> simp [restOk]
theorem rest_none {r : List Tok} {k : Nat} (hk : k = 7 ∨ k = 8) : restOk k r = decide (r.length = 0) := by
 cases r <;> (rcases hk with rfl | rfl) <;> simp [restOk]


set_option maxHeartbeats 8000000 in
set_option maxRecDepth 100000 in
theorem spec_rest1 (v : Value) (r : List Tok) (fp : List Nat) (w : World) (hl : r.length ≤ 1048576) (hx : ∀ k, (hk : k < r.length) → r[k].hidden.length ≤ 2000000) (H : (sSlice sTok).R w [v] r fp) :
  Calls Tryd.prog 42 #[.int .i64 1, v] w (Says (restOk 1 r) w) := by
 have HC := Lib.hid (spec_MacroOf v r fp w hl hx H)
 clear H hx hl
 unfold MOf at HC
 go_enter Tryd.func42, Tryd.ntmps42
 go_wp2_with fail
 refine HC.out.mono ?_
 rintro e w2 ⟨cs, f2, rfl, hR, -, hb2⟩
 obtain ⟨h2, h3, q2, q3, rfl, -, K2, K3, -⟩ := hR
 obtain ⟨a2, c2, rfl, -⟩ := open_strs K2
 obtain ⟨a3, c3, rfl, -⟩ := open_rows K3
 clear K2 K3 HC
 go_wp2
 go_ret
 exact ⟨rfl, hb2.alloc hb2.size _⟩

set_option maxHeartbeats 8000000 in
set_option maxRecDepth 100000 in
theorem spec_rest2 (v : Value) (r : List Tok) (fp : List Nat) (w : World) (hl : r.length ≤ 1048576) (hx : ∀ k, (hk : k < r.length) → r[k].hidden.length ≤ 2000000) (H : (sSlice sTok).R w [v] r fp) :
  Calls Tryd.prog 42 #[.int .i64 2, v] w (Says (restOk 2 r) w) := by
 have H0 := Lib.hid H
 obtain ⟨al, cl, rfl, hcl, hml, hrow⟩ := open_rows H
 unfold maxLen at hml
 clear H hx
 go_enter Tryd.func42, Tryd.ntmps42
 by_cases h1 : r.length = 1
 rotate_left
 ·have HF := Lib.hid (rest_one (k := 2) (by omega) h1)
  have e1 : ((r.length : Int) == 1) = false := by simp; omega
  clear h1 hrow
  go_wp2
  go_ret
  exact ⟨by rw [HF.out] <;> rfl, Below.refl _ _⟩
 have HF := Lib.hid (rest_at (k := 2) (by omega) h1)
 have e1 : ((r.length : Int) == 1) = true := by simp; omega
 obtain ⟨b1, o1, -, rfl, -, -, -⟩ := hrow (by omega)
 obtain ⟨xa, xc, xf, x0, x1, x2, x3, xR, hbb, -⟩ := tok_at H0.out (j := 0) (by omega)
 have i1 : (0 : Int) < (r.length : Int) := by omega
 simp only [Nat.zero_mul, Nat.add_zero] at x0 x1 x2 x3
 clear xR hrow
 by_cases hk : (r[0]'(by omega)).kind = 1
 ·have e2 : ((r[0]'(by omega)).kind == 1) = true := by simp [hk]
  have HG : Hid (restOk 2 r = true) := by show _ = _; rw [HF.out]; simp [hk]
  clear hk HF
  go_wp2
  go_ret
  exact ⟨by rw [HG.out] <;> rfl, Below.refl _ _⟩
 ·have e2 : ((r[0]'(by omega)).kind == 1) = false := by simp [hk]
  have HG : Hid (restOk 2 r = false) := by show _ = _; rw [HF.out]; simp [hk]
  clear hk HF
  go_wp2
  go_ret
  exact ⟨by rw [HG.out] <;> rfl, Below.refl _ _⟩

set_option maxHeartbeats 8000000 in
set_option maxRecDepth 100000 in
theorem spec_rest3 (v : Value) (r : List Tok) (fp : List Nat) (w : World) (hl : r.length ≤ 1048576) (hx : ∀ k, (hk : k < r.length) → r[k].hidden.length ≤ 2000000) (H : (sSlice sTok).R w [v] r fp) :
  Calls Tryd.prog 42 #[.int .i64 3, v] w (Says (restOk 3 r) w) := by
 obtain ⟨al, cl, rfl, hcl, hml, -⟩ := open_rows H
 unfold maxLen at hml
 have HF := Lib.hid (rest_some (r := r) (k := 3) (by omega))
 clear H hx
 go_enter Tryd.func42, Tryd.ntmps42
 by_cases h1 : 0 < r.length
 ·have e1 : (0 : Int) < (r.length : Int) := by omega
  have HG : Hid (restOk 3 r = true) := by show _ = _; rw [HF.out]; simp [h1]
  have e2 : decide ((0 : Int) < (r.length : Int)) = true := decide_eq_true e1
  clear HF
  go_wp2
  go_ret
  exact ⟨by rw [HG.out] <;> first | rfl | (simp [h1]; done) | (simp; omega), Below.refl _ _⟩
 ·have e1 : ¬ (0 : Int) < (r.length : Int) := by omega
  have HG : Hid (restOk 3 r = false) := by show _ = _; rw [HF.out]; exact decide_eq_false h1
  have e2 : decide ((0 : Int) < (r.length : Int)) = false := decide_eq_false e1
  clear HF
  go_wp2
  go_ret
  exact ⟨by rw [HG.out] <;> first | rfl | (simp [h1]; done) | (simp; omega), Below.refl _ _⟩

set_option maxHeartbeats 8000000 in
set_option maxRecDepth 100000 in
theorem spec_rest4 (v : Value) (r : List Tok) (fp : List Nat) (w : World) (hl : r.length ≤ 1048576) (hx : ∀ k, (hk : k < r.length) → r[k].hidden.length ≤ 2000000) (H : (sSlice sTok).R w [v] r fp) :
  Calls Tryd.prog 42 #[.int .i64 4, v] w (Says (restOk 4 r) w) := by
 have H0 := Lib.hid H
 obtain ⟨al, cl, rfl, hcl, hml, hrow⟩ := open_rows H
 unfold maxLen at hml
 clear H hx
 go_enter Tryd.func42, Tryd.ntmps42
 by_cases h1 : r.length = 1
 rotate_left
 ·have HF := Lib.hid (rest_one (k := 4) (by omega) h1)
  have e1 : ((r.length : Int) == 1) = false := by simp; omega
  clear h1 hrow
  go_wp2
  go_ret
  exact ⟨by rw [HF.out] <;> rfl, Below.refl _ _⟩
 have HF := Lib.hid (rest_at (k := 4) (by omega) h1)
 have e1 : ((r.length : Int) == 1) = true := by simp; omega
 obtain ⟨b1, o1, -, rfl, -, -, -⟩ := hrow (by omega)
 obtain ⟨xa, xc, xf, x0, x1, x2, x3, xR, hbb, -⟩ := tok_at H0.out (j := 0) (by omega)
 have i1 : (0 : Int) < (r.length : Int) := by omega
 simp only [Nat.zero_mul, Nat.add_zero] at x0 x1 x2 x3
 clear xR hrow
 by_cases hk : (r[0]'(by omega)).kind = 1
 ·have e2 : ((r[0]'(by omega)).kind == 1) = true := by simp [hk]
  have HG : Hid (restOk 4 r = true) := by show _ = _; rw [HF.out]; simp [hk]
  clear hk HF
  go_wp2
  go_ret
  exact ⟨by rw [HG.out] <;> rfl, Below.refl _ _⟩
 ·have e2 : ((r[0]'(by omega)).kind == 1) = false := by simp [hk]
  have HG : Hid (restOk 4 r = false) := by show _ = _; rw [HF.out]; simp [hk]
  clear hk HF
  go_wp2
  go_ret
  exact ⟨by rw [HG.out] <;> rfl, Below.refl _ _⟩

set_option maxHeartbeats 8000000 in
set_option maxRecDepth 100000 in
theorem spec_rest5 (v : Value) (r : List Tok) (fp : List Nat) (w : World) (hl : r.length ≤ 1048576) (hx : ∀ k, (hk : k < r.length) → r[k].hidden.length ≤ 2000000) (H : (sSlice sTok).R w [v] r fp) :
  Calls Tryd.prog 42 #[.int .i64 5, v] w (Says (restOk 5 r) w) := by
 have H0 := Lib.hid H
 obtain ⟨al, cl, rfl, hcl, hml, hrow⟩ := open_rows H
 unfold maxLen at hml
 clear H hx
 go_enter Tryd.func42, Tryd.ntmps42
 by_cases h1 : r.length = 1
 rotate_left
 ·have HF := Lib.hid (rest_one (k := 5) (by omega) h1)
  have e1 : ((r.length : Int) == 1) = false := by simp; omega
  clear h1 hrow
  go_wp2
  go_ret
  exact ⟨by rw [HF.out] <;> rfl, Below.refl _ _⟩
 have HF := Lib.hid (rest_at (k := 5) (by omega) h1)
 have e1 : ((r.length : Int) == 1) = true := by simp; omega
 obtain ⟨b1, o1, -, rfl, -, -, -⟩ := hrow (by omega)
 obtain ⟨xa, xc, xf, x0, x1, x2, x3, xR, hbb, -⟩ := tok_at H0.out (j := 0) (by omega)
 have i1 : (0 : Int) < (r.length : Int) := by omega
 simp only [Nat.zero_mul, Nat.add_zero] at x0 x1 x2 x3
 clear xR hrow
 by_cases hk : (r[0]'(by omega)).kind = 1
 ·have e2 : ((r[0]'(by omega)).kind == 1) = true := by simp [hk]
  have HG : Hid (restOk 5 r = true) := by show _ = _; rw [HF.out]; simp [hk]
  clear hk HF
  go_wp2
  go_ret
  exact ⟨by rw [HG.out] <;> rfl, Below.refl _ _⟩
 ·have e2 : ((r[0]'(by omega)).kind == 1) = false := by simp [hk]
  have HG : Hid (restOk 5 r = false) := by show _ = _; rw [HF.out]; simp [hk]
  clear hk HF
  go_wp2
  go_ret
  exact ⟨by rw [HG.out] <;> rfl, Below.refl _ _⟩

set_option maxHeartbeats 8000000 in
set_option maxRecDepth 100000 in
theorem spec_rest6 (v : Value) (r : List Tok) (fp : List Nat) (w : World) (hl : r.length ≤ 1048576) (hx : ∀ k, (hk : k < r.length) → r[k].hidden.length ≤ 2000000) (H : (sSlice sTok).R w [v] r fp) :
  Calls Tryd.prog 42 #[.int .i64 6, v] w (Says (restOk 6 r) w) := by
 obtain ⟨al, cl, rfl, hcl, hml, -⟩ := open_rows H
 unfold maxLen at hml
 have HF := Lib.hid (rest_some (r := r) (k := 6) (by omega))
 clear H hx
 go_enter Tryd.func42, Tryd.ntmps42
 by_cases h1 : 0 < r.length
 ·have e1 : (0 : Int) < (r.length : Int) := by omega
  have HG : Hid (restOk 6 r = true) := by show _ = _; rw [HF.out]; simp [h1]
  have e2 : decide ((0 : Int) < (r.length : Int)) = true := decide_eq_true e1
  clear HF
  go_wp2
  go_ret
  exact ⟨by rw [HG.out] <;> first | rfl | (simp [h1]; done) | (simp; omega), Below.refl _ _⟩
 ·have e1 : ¬ (0 : Int) < (r.length : Int) := by omega
  have HG : Hid (restOk 6 r = false) := by show _ = _; rw [HF.out]; exact decide_eq_false h1
  have e2 : decide ((0 : Int) < (r.length : Int)) = false := decide_eq_false e1
  clear HF
  go_wp2
  go_ret
  exact ⟨by rw [HG.out] <;> first | rfl | (simp [h1]; done) | (simp; omega), Below.refl _ _⟩

set_option maxHeartbeats 8000000 in
set_option maxRecDepth 100000 in
theorem spec_rest7 (v : Value) (r : List Tok) (fp : List Nat) (w : World) (hl : r.length ≤ 1048576) (hx : ∀ k, (hk : k < r.length) → r[k].hidden.length ≤ 2000000) (H : (sSlice sTok).R w [v] r fp) :
  Calls Tryd.prog 42 #[.int .i64 7, v] w (Says (restOk 7 r) w) := by
 obtain ⟨al, cl, rfl, hcl, hml, -⟩ := open_rows H
 unfold maxLen at hml
 have HF := Lib.hid (rest_none (r := r) (k := 7) (by omega))
 clear H hx
 go_enter Tryd.func42, Tryd.ntmps42
 by_cases h1 : r.length = 0
 ·have e1 : ((r.length : Int) == 0) = true := by rw [h1]; rfl
  have HG : Hid (restOk 7 r = true) := by show _ = _; rw [HF.out]; exact decide_eq_true h1
  clear HF h1
  go_wp2
  go_ret
  exact ⟨by rw [HG.out] <;> rfl, Below.refl _ _⟩
 ·have e1 : ((r.length : Int) == 0) = false := by
   cases e : ((r.length : Int) == 0)
   ·rfl
   ·rw [beq_iff_eq] at e; omega
  have HG : Hid (restOk 7 r = false) := by show _ = _; rw [HF.out]; exact decide_eq_false h1
  clear HF h1
  go_wp2
  go_ret
  exact ⟨by rw [HG.out] <;> rfl, Below.refl _ _⟩

set_option maxHeartbeats 8000000 in
set_option maxRecDepth 100000 in
theorem spec_rest8 (v : Value) (r : List Tok) (fp : List Nat) (w : World) (hl : r.length ≤ 1048576) (hx : ∀ k, (hk : k < r.length) → r[k].hidden.length ≤ 2000000) (H : (sSlice sTok).R w [v] r fp) :
  Calls Tryd.prog 42 #[.int .i64 8, v] w (Says (restOk 8 r) w) := by
 obtain ⟨al, cl, rfl, hcl, hml, -⟩ := open_rows H
 unfold maxLen at hml
 have HF := Lib.hid (rest_none (r := r) (k := 8) (by omega))
 clear H hx
 go_enter Tryd.func42, Tryd.ntmps42
 by_cases h1 : r.length = 0
 ·have e1 : ((r.length : Int) == 0) = true := by rw [h1]; rfl
  have HG : Hid (restOk 8 r = true) := by show _ = _; rw [HF.out]; exact decide_eq_true h1
  clear HF h1
  go_wp2
  go_ret
  exact ⟨by rw [HG.out] <;> rfl, Below.refl _ _⟩
 ·have e1 : ((r.length : Int) == 0) = false := by
   cases e : ((r.length : Int) == 0)
   ·rfl
   ·rw [beq_iff_eq] at e; omega
  have HG : Hid (restOk 8 r = false) := by show _ = _; rw [HF.out]; exact decide_eq_false h1
  clear HF h1
  go_wp2
  go_ret
  exact ⟨by rw [HG.out] <;> rfl, Below.refl _ _⟩

set_option maxHeartbeats 8000000 in
set_option maxRecDepth 100000 in
theorem spec_rest9 (v : Value) (r : List Tok) (fp : List Nat) (w : World) (hl : r.length ≤ 1048576) (hx : ∀ k, (hk : k < r.length) → r[k].hidden.length ≤ 2000000) (H : (sSlice sTok).R w [v] r fp) :
  Calls Tryd.prog 42 #[.int .i64 9, v] w (Says (restOk 9 r) w) := by
 have H0 := Lib.hid H
 obtain ⟨al, cl, rfl, hcl, hml, hrow⟩ := open_rows H
 unfold maxLen at hml
 clear H hx
 go_enter Tryd.func42, Tryd.ntmps42
 by_cases h1 : r.length = 1
 rotate_left
 ·have HF := Lib.hid (rest9_one h1)
  have e1 : ((r.length : Int) == 1) = false := by simp; omega
  clear h1 hrow
  go_wp2
  go_ret
  exact ⟨by rw [HF.out] <;> rfl, Below.refl _ _⟩
 have HF := Lib.hid (rest9_at h1)
 have e1 : ((r.length : Int) == 1) = true := by simp; omega
 obtain ⟨b1, o1, -, rfl, -, -, -⟩ := hrow (by omega)
 obtain ⟨xa, xc, xf, x0, x1, x2, x3, xR, hbb, -⟩ := tok_at H0.out (j := 0) (by omega)
 have i1 : (0 : Int) < (r.length : Int) := by omega
 simp only [Nat.zero_mul, Nat.add_zero] at x0 x1 x2 x3
 clear xR hrow
 by_cases hk : (r[0]'(by omega)).kind = 3
 ·have e2 : ((r[0]'(by omega)).kind == 3) = true := by simp [hk]
  have HG : Hid (restOk 9 r = true) := by show _ = _; rw [HF.out]; simp [hk]
  clear hk HF
  go_wp2
  go_ret
  exact ⟨by rw [HG.out] <;> rfl, Below.refl _ _⟩
 ·have e2 : ((r[0]'(by omega)).kind == 3) = false := by simp [hk]
  have HG : Hid (restOk 9 r = false) := by show _ = _; rw [HF.out]; simp [hk]
  clear hk HF
  go_wp2
  go_ret
  exact ⟨by rw [HG.out] <;> rfl, Below.refl _ _⟩

set_option maxHeartbeats 8000000 in
set_option maxRecDepth 100000 in
theorem spec_rest10 (v : Value) (r : List Tok) (fp : List Nat) (w : World) (hl : r.length ≤ 1048576) (hx : ∀ k, (hk : k < r.length) → r[k].hidden.length ≤ 2000000) (H : (sSlice sTok).R w [v] r fp) :
  Calls Tryd.prog 42 #[.int .i64 10, v] w (Says (restOk 10 r) w) := by
 obtain ⟨al, cl, rfl, hcl, hml, -⟩ := open_rows H
 clear H hx
 go_enter Tryd.func42, Tryd.ntmps42
 go_wp2
 go_ret
 exact ⟨rfl, Below.refl _ _⟩

theorem spec_l14Rest {k : Nat} (h1 : 1 ≤ k) (h10 : k ≤ 10) (v : Value) (r : List Tok) (fp : List Nat) (w : World) (hl : r.length ≤ 1048576) (hx : ∀ k, (hk : k < r.length) → r[k].hidden.length ≤ 2000000) (H : (sSlice sTok).R w [v] r fp) :
  Calls Tryd.prog 42 #[.int .i64 k, v] w (Says (restOk k r) w) := by
 have hk : k = 1 ∨ k = 2 ∨ k = 3 ∨ k = 4 ∨ k = 5 ∨ k = 6 ∨ k = 7 ∨ k = 8 ∨ k = 9 ∨ k = 10 := by omega
 rcases hk with rfl | rfl | rfl | rfl | rfl | rfl | rfl | rfl | rfl | rfl
 ·exact spec_rest1 v r fp w hl hx H
 ·exact spec_rest2 v r fp w hl hx H
 ·exact spec_rest3 v r fp w hl hx H
 ·exact spec_rest4 v r fp w hl hx H
 ·exact spec_rest5 v r fp w hl hx H
 ·exact spec_rest6 v r fp w hl hx H
 ·exact spec_rest7 v r fp w hl hx H
 ·exact spec_rest8 v r fp w hl hx H
 ·exact spec_rest9 v r fp w hl hx H
 ·exact spec_rest10 v r fp w hl hx H

end Go.Proofs.YtlegeancmcmbaaaDoor

/- DirectiveOf of the model. (Made by gen_dir5.py.) -/
namespace Go.Proofs.YtlegeancmcmbaaaDoor
open Go.RowKit

def RetDir (r : (Int × List Tok) × Bool) (w : World) (e : Ending) (w' : World) : Prop :=
 ∃ (v : Value) (fp : List Nat), e = .returned (.tuple #[.agg #[.int .i64 r.1.1, v], .bool r.2]) ∧ (sSlice sTok).R w' [v] r.1.2 fp ∧ (∀ b ∈ fp, w.heap.size ≤ b) ∧ Below w.heap.size w w'
theorem retDir_no {r : (Int × List Tok) × Bool} {c : Bool} {w W : World} (h : r = ((0, []), c)) (hb : Below w.heap.size w W) : RetDir r w (.returned (.tuple #[.agg #[.int .i64 0, .slice none 0 0], .bool c])) W :=
 ⟨_, [], by rw [h], by rw [h]; exact slice_empty _ _ _ _ (by simp), by simp, hb⟩
theorem mkD_in {l : List Tok} {k : Nat} {s : List UInt8} (hk : k < l.length) : mkAt l k s = isMk l[k] s := by unfold mkAt; rw [dif_pos hk]
theorem mkD_out {l : List Tok} {k : Nat} {s : List UInt8} (hk : ¬ k < l.length) : mkAt l k s = false := by unfold mkAt; rw [dif_neg hk]

set_option maxHeartbeats 16000000 in
set_option maxRecDepth 100000 in
theorem spec_DirectiveOf (v : Value) (l : List Tok) (fp : List Nat) (w : World) (hl : l.length ≤ 1048576) (hx : ∀ k, (hk : k < l.length) → l[k].hidden.length ≤ 2000000) (H : (sSlice sTok).R w [v] l fp) :
  Calls Tryd.prog 18 #[v] w (RetDir (dirRes l) w) := by
 have hz0 := alloc_below' w (.cells #[.int .i64 0, .slice none 0 0] 30)
 have HZ0 := Lib.hid (heap_alloc_new w (.cells #[.int .i64 0, .slice none 0 0] 30))
 have HCP := Lib.hid (spec_l1OwnTokenList_s v l fp _ hl hx ((sSlice sTok).below H hz0))
 have hs0 : (w.alloc (.cells #[.int .i64 0, .slice none 0 0] 30)).heap.size = w.heap.size + 1 := Array.size_push _
 have HXX := Lib.hid hx
 clear H hx
 go_enter Tryd.func18, Tryd.ntmps18
 go_wp2_with fail
 refine HCP.out.mono ?_
 rintro e w1 ⟨v1, fp1, rfl, HL, lo1, -, hb1⟩
 have hB1 := hz0.trans (hb1.mono hz0.size)
 have HZ1 := Lib.hid (mbox HZ0.out hb1)
 have LO1 : Hid (∀ b ∈ fp1, w.heap.size + 1 ≤ b) := fun b hb => by have := lo1 b hb; rw [hs0] at this; omega
 clear hb1 hz0 HCP lo1 hs0 HZ0
 have HV := Lib.hid (spec_TokensValid v1 l fp1 w1 HL)
 have HL1 := Lib.hid HL
 obtain ⟨a, cap, rfl, hc, hm, hrow⟩ := open_rows HL
 unfold maxLen at hm
 have HROW : Hid (0 < l.length → ∃ bb ob, a = some ⟨bb, ob, none⟩) := fun h => by obtain ⟨b, o, -, e, -⟩ := hrow h; exact ⟨b, o, e⟩
 clear HL hrow
 go_wp2_with fail
 refine HV.out.mono ?_
 rintro e w2 ⟨rfl, hb2⟩
 have hB2 := hB1.trans (hb2.mono hB1.size)
 have HZ2 := Lib.hid (mbox HZ1.out hb2)
 have HL2 := Lib.hid ((sSlice sTok).below HL1.out hb2)
 clear HV HZ1 HL1 hb2 hB1
 cases hv : toksOk l
 ·have HF := Lib.hid (dir_bad hv)
  clear hv
  have z0 : w2.cell? ⟨w.heap.size, 0, none⟩ = some (.int .i64 0) := cell_of_row _ _ 0 _ _ _ HZ2.out
  have zf0 : w2.frozen? ⟨w.heap.size, 0, none⟩ = false := frozen_of_row _ _ 0 _ _ HZ2.out
  have z1 : w2.cell? ⟨w.heap.size, 1, none⟩ = some (.slice none 0 0) := cell_of_row _ _ 1 _ _ _ HZ2.out
  have zf1 : w2.frozen? ⟨w.heap.size, 1, none⟩ = false := frozen_of_row _ _ 1 _ _ HZ2.out
  have HS := Lib.hid (blk_set (blk_set HZ2.out 0 (.int .i64 0)) 1 (.slice none 0 0))
  have HBF := Lib.hid ((hB2.setCell (p := ⟨w.heap.size, 0, none⟩) (Nat.le_refl _) (.int .i64 0)).setCell (p := ⟨w.heap.size, 1, none⟩) (Nat.le_refl _) (.slice none 0 0))
  go_wp2
  refine bodyPost_ret (results_cell2 rfl _ _ w.heap.size _ _ _ _ rfl HS.out Tryd.underlying30 rfl (by kernel_rfl)) rfl ?_
  exact retDir_no HF.out HBF.out
 have HVV := Lib.hid hv
 have hl60 := (toksOk_facts hv).1
 clear hv
 by_cases h0 : 0 < l.length
 rotate_left
 ·have HF := Lib.hid (dir_plain HVV.out (mkD_out h0))
  have hz1 : ((l.length : Int) == 0) = true := by
   have : l.length = 0 := by omega
   rw [this]; rfl
  clear h0
  have z0 : w2.cell? ⟨w.heap.size, 0, none⟩ = some (.int .i64 0) := cell_of_row _ _ 0 _ _ _ HZ2.out
  have zf0 : w2.frozen? ⟨w.heap.size, 0, none⟩ = false := frozen_of_row _ _ 0 _ _ HZ2.out
  have z1 : w2.cell? ⟨w.heap.size, 1, none⟩ = some (.slice none 0 0) := cell_of_row _ _ 1 _ _ _ HZ2.out
  have zf1 : w2.frozen? ⟨w.heap.size, 1, none⟩ = false := frozen_of_row _ _ 1 _ _ HZ2.out
  have HS := Lib.hid (blk_set (blk_set HZ2.out 0 (.int .i64 0)) 1 (.slice none 0 0))
  have HBF := Lib.hid ((hB2.setCell (p := ⟨w.heap.size, 0, none⟩) (Nat.le_refl _) (.int .i64 0)).setCell (p := ⟨w.heap.size, 1, none⟩) (Nat.le_refl _) (.slice none 0 0))
  go_wp2
  refine bodyPost_ret (results_cell2 rfl _ _ w.heap.size _ _ _ _ rfl HS.out Tryd.underlying30 rfl (by kernel_rfl)) rfl ?_
  exact retDir_no HF.out HBF.out
 have hz1 : ((l.length : Int) == 0) = false := by
  cases e : ((l.length : Int) == 0)
  ·rfl
  ·rw [beq_iff_eq] at e; omega
 obtain ⟨b1, o1, rfl⟩ := HROW.out h0
 obtain ⟨xa, xc, xf, x0, x1, x2, x3, xR, hbb, -⟩ := tok_at HL2.out (j := 0) h0
 have HQ := spec_l7Is _ l[0] xf w2 35 xR
 rw [show (decide (l[0].kind = 4) && (l[0].text.toList == [35])) = mkAt l 0 [35] by rw [mkD_in h0]; rfl] at HQ
 have HQH := Lib.hid HQ
 have i1 : (0 : Int) < (l.length : Int) := by omega
 simp only [Nat.zero_mul, Nat.add_zero] at x0 x1 x2 x3
 clear HQ xR hbb
 cases hm0 : mkAt l 0 [35]
 ·have HF := Lib.hid (dir_plain HVV.out hm0)
  rw [hm0] at HQH
  clear hm0
  go_wp2_with fail
  refine HQH.out.mono ?_
  rintro e w3 ⟨rfl, hb3⟩
  have hB3 := hB2.trans (hb3.mono hB2.size)
  have HZ3 := Lib.hid (mbox HZ2.out hb3)
  clear x0 x1 x2 x3
  have z0 : w3.cell? ⟨w.heap.size, 0, none⟩ = some (.int .i64 0) := cell_of_row _ _ 0 _ _ _ HZ3.out
  have zf0 : w3.frozen? ⟨w.heap.size, 0, none⟩ = false := frozen_of_row _ _ 0 _ _ HZ3.out
  have z1 : w3.cell? ⟨w.heap.size, 1, none⟩ = some (.slice none 0 0) := cell_of_row _ _ 1 _ _ _ HZ3.out
  have zf1 : w3.frozen? ⟨w.heap.size, 1, none⟩ = false := frozen_of_row _ _ 1 _ _ HZ3.out
  have HS := Lib.hid (blk_set (blk_set HZ3.out 0 (.int .i64 0)) 1 (.slice none 0 0))
  have HBF := Lib.hid ((hB3.setCell (p := ⟨w.heap.size, 0, none⟩) (Nat.le_refl _) (.int .i64 0)).setCell (p := ⟨w.heap.size, 1, none⟩) (Nat.le_refl _) (.slice none 0 0))
  go_wp2
  refine bodyPost_ret (results_cell2 rfl _ _ w.heap.size _ _ _ _ rfl HS.out Tryd.underlying30 rfl (by kernel_rfl)) rfl ?_
  exact retDir_no HF.out HBF.out
 rw [hm0] at HQH
 have HM0 := Lib.hid hm0
 clear hm0
 go_wp2_with fail
 refine HQH.out.mono ?_
 rintro e w3 ⟨rfl, hb3⟩
 have hB3 := hB2.trans (hb3.mono hB2.size)
 have HZ3 := Lib.hid (mbox HZ2.out hb3)
 have HL3 := Lib.hid ((sSlice sTok).below HL2.out hb3)
 clear x0 x1 x2 x3 hb3 HQH HZ2 HL2 hB2
 by_cases h1 : 1 < l.length
 rotate_left
 ·have HF := Lib.hid (dir_one HVV.out HM0.out h1)
  have j1 : ¬ (1 : Int) < (l.length : Int) := by omega
  have j2 : decide ((1 : Int) < (l.length : Int)) = false := decide_eq_false j1
  go_wp2
  go_loopw [4] (fun vk wr => vk = .int .i64 1 ∧ Hid (wr = w3)) (fun _ _ => 0)
  case atStart => exact ⟨rfl, Lib.hid rfl⟩
  case round =>
   obtain ⟨rfl, HW⟩ := hrel
   obtain rfl : wr = w3 := HW.out
   have z0 : wr.cell? ⟨w.heap.size, 0, none⟩ = some (.int .i64 0) := cell_of_row _ _ 0 _ _ _ HZ3.out
   have zf0 : wr.frozen? ⟨w.heap.size, 0, none⟩ = false := frozen_of_row _ _ 0 _ _ HZ3.out
   have z1 : wr.cell? ⟨w.heap.size, 1, none⟩ = some (.slice none 0 0) := cell_of_row _ _ 1 _ _ _ HZ3.out
   have zf1 : wr.frozen? ⟨w.heap.size, 1, none⟩ = false := frozen_of_row _ _ 1 _ _ HZ3.out
   have HS := Lib.hid (blk_set (blk_set HZ3.out 0 (.int .i64 0)) 1 (.slice none 0 0))
   have HBF := Lib.hid ((hB3.setCell (p := ⟨w.heap.size, 0, none⟩) (Nat.le_refl _) (.int .i64 0)).setCell (p := ⟨w.heap.size, 1, none⟩) (Nat.le_refl _) (.slice none 0 0))
   go_wp2
   refine bodyPost_ret (results_cell2 rfl _ _ w.heap.size _ _ _ _ rfl HS.out Tryd.underlying30 rfl (by kernel_rfl)) rfl ?_
   exact retDir_no HF.out HBF.out
 have HH1 := Lib.hid h1
 have j1 : (1 : Int) < (l.length : Int) := by omega
 have j2 : decide ((1 : Int) < (l.length : Int)) = true := decide_eq_true j1
 obtain ⟨ya, yc, yf, y0, y1, y2, y3, yR, hbb, -⟩ := tok_at HL3.out (j := 1) h1
 obtain ⟨tk, HTK⟩ : ∃ tk : Tok, Hid (tk = l[1]) := ⟨_, Lib.hid rfl⟩
 rw [show l[1] = tk from HTK.out.symm] at y0 y1 y2 y3 yR
 simp only [Nat.one_mul] at y0 y1 y2 y3
 have HY : Hid (∀ Q : World, Below w3.heap.size w3 Q → Q.cell? ⟨b1, o1 + 4, none⟩ = some (.int .i64 tk.kind) ∧ Q.cell? ⟨b1, o1 + 4 + 1, none⟩ = some (.string tk.text)) := fun Q hQ => ⟨(hQ.cell (p := ⟨b1, o1 + 4, none⟩) hbb).trans y0, (hQ.cell (p := ⟨b1, o1 + 4 + 1, none⟩) hbb).trans y1⟩
 clear y0 y1 y2 y3 yR
 obtain ⟨X, HX⟩ : ∃ X : List UInt8, Hid (X = tk.text.toList) := ⟨_, Lib.hid rfl⟩
 have HKX2 : Hid (kindAt l[1].text.toList 1 = kindAt X 1) := by show _ = _; rw [HX.out, HTK.out]
 go_wp2
 go_loopw [4] (fun vk wr => ∃ k : Nat, 1 ≤ k ∧ k ≤ 11 ∧ vk = .int .i64 k ∧ Hid (kindAt X 1 = kindAt X k ∨ tk.kind ≠ 1) ∧ Hid (Below w3.heap.size w3 wr)) (fun vk _ => 11 - (intOf vk).toNat)
 case atStart => exact ⟨1, by omega, by omega, rfl, Lib.hid (.inl rfl), Lib.hid (Below.refl _ _)⟩
 case round =>
  obtain ⟨k, hk1, hk11, rfl, HK, HW⟩ := hrel
  have hBr := hB3.trans (HW.out.mono hB3.size)
  have HZr := Lib.hid (mbox HZ3.out HW.out)
  by_cases hk10 : k ≤ 10
  rotate_left
  ·have HF : Hid (dirRes l = ((0, []), false)) := dir_no HVV.out HM0.out HH1.out (fun h => by
    rcases HK.out with h9 | h9
    ·exact absurd (HKX2.out.trans (h9.trans (kindAt_out (by omega)))) h.2.1
    ·exact h9 (by rw [HTK.out]; exact h.1))
   have e1 : ¬ (k : Int) ≤ 10 := by omega
   have e2 : decide ((k : Int) ≤ 10) = false := decide_eq_false e1
   clear hk10
   have z0 : wr.cell? ⟨w.heap.size, 0, none⟩ = some (.int .i64 0) := cell_of_row _ _ 0 _ _ _ HZr.out
   have zf0 : wr.frozen? ⟨w.heap.size, 0, none⟩ = false := frozen_of_row _ _ 0 _ _ HZr.out
   have z1 : wr.cell? ⟨w.heap.size, 1, none⟩ = some (.slice none 0 0) := cell_of_row _ _ 1 _ _ _ HZr.out
   have zf1 : wr.frozen? ⟨w.heap.size, 1, none⟩ = false := frozen_of_row _ _ 1 _ _ HZr.out
   have HS := Lib.hid (blk_set (blk_set HZr.out 0 (.int .i64 0)) 1 (.slice none 0 0))
   have HBF := Lib.hid ((hBr.setCell (p := ⟨w.heap.size, 0, none⟩) (Nat.le_refl _) (.int .i64 0)).setCell (p := ⟨w.heap.size, 1, none⟩) (Nat.le_refl _) (.slice none 0 0))
   go_wp2
   refine bodyPost_ret (results_cell2 rfl _ _ w.heap.size _ _ _ _ rfl HS.out Tryd.underlying30 rfl (by kernel_rfl)) rfl ?_
   exact retDir_no HF.out HBF.out
  have e1 : (k : Int) ≤ 10 := by omega
  have e2 : decide ((k : Int) ≤ 10) = true := decide_eq_true e1
  have hwk : IntKind.i64.wrap ((k : Int) + 1) = ((k + 1 : Nat) : Int) := by rw [IntWalk.i64_in _ (by omega)]; omega
  obtain ⟨y0, y1⟩ := HY.out wr HW.out
  by_cases hkd : tk.kind = 1
  rotate_left
  ·have e3 : (tk.kind == 1) = false := by simp [hkd]
   have HNK := Lib.hid hkd
   clear hkd
   go_wp2_with fail
   go_quiet (fail)
   have hbq := belowN (Below.refl wr.heap.size wr) nq
   have HWq := Lib.hid (HW.out.trans (hbq.mono HW.out.size))
   clear y0 y1
   generalize wr.drewN nq = wq at *
   go_wp2
   go_roundw
   case rel => exact ⟨k + 1, by omega, by omega, by go_num, Lib.hid (.inr HNK.out), HWq⟩
   case measure => simp [intOf]; omega
  have e3 : (tk.kind == 1) = true := by simp [hkd]
  have HKD := Lib.hid hkd
  have HKI : Hid (kindAt X 1 = kindAt X k) := by
   rcases HK.out with h | h
   ·exact h
   ·exact absurd HKD.out h
  clear hkd HK
  have HKT := Lib.hid (fun (Q : World) => spec_kindT (k : Int) Q)
  obtain ⟨kx, HKX⟩ : ∃ kx : ByteArray, Hid (kx = kindRes (k : Int)) := ⟨_, Lib.hid rfl⟩
  rw [show kindRes (k : Int) = kx from HKX.out.symm] at HKT
  clear y0 y1
  go_upto_region 9 with fail
  have hcs : Below w3.heap.size w3 wr.drew := HW.out.trans (belowN (Below.refl _ _) 1 |>.mono HW.out.size)
  refine wp_region_noPanic ?_
  refine wp_region_held_drew (S := fun w' => w'.cell? ⟨b1, o1 + 4, none⟩ = some (.int .i64 tk.kind) ∧ w'.cell? ⟨b1, o1 + 4 + 1, none⟩ = some (.string tk.text)) (by kernel_rfl) (by exact HY.out _ hcs) (fun hHeld => ?_)
  generalize hwd : wr.drew = wd at *
  refine takeH2 0 32 (v := ?_) rfl rfl (by kernel_rfl) (by kernel_rfl) (by kernel_rfl) (fun _ _ _ h => h) (by rfl) (by assumption) ?_ ?_
  rotate_left
  ·intro w hSw; go_simp; (first | done | with_reducible rfl | rfl)
  try simp only [Act.put, List.setIfInBounds_toArray, List.set_cons_zero, List.set_cons_succ]
  refine takeH2 1 33 (v := ?_) rfl rfl (by kernel_rfl) (by kernel_rfl) (by kernel_rfl) (fun _ _ _ h => h) (by rfl) (by assumption) ?_ ?_
  rotate_left
  ·intro w hSw; go_simp; (first | done | with_reducible rfl | rfl)
  try simp only [Act.put, List.setIfInBounds_toArray, List.set_cons_zero, List.set_cons_succ]
  refine takeH2 2 34 (v := ?_) rfl rfl (by kernel_rfl) (by kernel_rfl) (by kernel_rfl) (fun _ _ _ h => h) (by rfl) (by assumption) ?_ ?_
  rotate_left
  ·intro w hSw; go_simp; (first | done | with_reducible rfl | rfl)
  try simp only [Act.put, List.setIfInBounds_toArray, List.set_cons_zero, List.set_cons_succ]
  refine takeH2 3 35 (v := ?_) rfl rfl (by kernel_rfl) (by kernel_rfl) (by kernel_rfl) (fun _ _ _ h => h) (by rfl) (by assumption) ?_ ?_
  rotate_left
  ·intro w hSw; obtain ⟨y0, y1⟩ := hSw; go_simp; (first | done | with_reducible rfl | rfl)
  try simp only [Act.put, List.setIfInBounds_toArray, List.set_cons_zero, List.set_cons_succ]
  refine takeH2 4 36 (v := ?_) rfl rfl (by kernel_rfl) (by kernel_rfl) (by kernel_rfl) (fun _ _ _ h => h) (by rfl) (by assumption) ?_ ?_
  rotate_left
  ·intro w hSw; go_simp; (first | done | with_reducible rfl | rfl)
  try simp only [Act.put, List.setIfInBounds_toArray, List.set_cons_zero, List.set_cons_succ]
  refine takeH2 5 37 (v := ?_) rfl rfl (by kernel_rfl) (by kernel_rfl) (by kernel_rfl) (fun _ _ _ h => h) (by rfl) (by assumption) ?_ ?_
  rotate_left
  ·intro w hSw; go_simp; (first | done | with_reducible rfl | rfl)
  try simp only [Act.put, List.setIfInBounds_toArray, List.set_cons_zero, List.set_cons_succ]
  refine takeH2 6 38 (v := ?_) rfl rfl (by kernel_rfl) (by kernel_rfl) (by kernel_rfl) (fun _ _ _ h => h) (by rfl) (by assumption) ?_ ?_
  rotate_left
  ·intro w hSw; go_simp; (first | done | with_reducible rfl | rfl)
  try simp only [Act.put, List.setIfInBounds_toArray, List.set_cons_zero, List.set_cons_succ]
  refine takeH2 7 39 (v := ?_) rfl rfl (by kernel_rfl) (by kernel_rfl) (by kernel_rfl) (fun _ _ _ h => h) (by rfl) (by assumption) ?_ ?_
  rotate_left
  ·intro w hSw; go_simp; (first | done | with_reducible rfl | rfl)
  try simp only [Act.put, List.setIfInBounds_toArray, List.set_cons_zero, List.set_cons_succ]
  refine takeH2 8 40 (v := ?_) rfl rfl (by kernel_rfl) (by kernel_rfl) (by kernel_rfl) (fun _ _ _ h => h) (by rfl) (by assumption) ?_ ?_
  rotate_left
  ·intro w hSw; go_simp; (first | done | with_reducible rfl | rfl)
  try simp only [Act.put, List.setIfInBounds_toArray, List.set_cons_zero, List.set_cons_succ]
  refine takeH2 9 41 (v := ?_) rfl rfl (by kernel_rfl) (by kernel_rfl) (by kernel_rfl) (fun _ _ _ h => h) (by rfl) (by assumption) ?_ ?_
  rotate_left
  ·intro w hSw; obtain ⟨y0, y1⟩ := hSw; go_simp; (first | done | with_reducible rfl | rfl)
  try simp only [Act.put, List.setIfInBounds_toArray, List.set_cons_zero, List.set_cons_succ]
  refine takeH2 10 42 (v := ?_) rfl rfl (by kernel_rfl) (by kernel_rfl) (by kernel_rfl) (fun _ _ _ h => h) (by rfl) (by assumption) ?_ ?_
  rotate_left
  ·intro w hSw; go_simp; (first | done | with_reducible rfl | rfl)
  try simp only [Act.put, List.setIfInBounds_toArray, List.set_cons_zero, List.set_cons_succ]
  refine wpAnyH_ready (rs := [11]) (by kernel_rfl) (by simp) ?_
  refine AllReadyH.cons rfl (fun K hK => ?_) AllReadyH.nil
  go_simp
  refine (HKT.out wd).mono ?_
  rintro e w5 ⟨rfl, hb5⟩
  have hx5 := hcs.trans (hb5.mono hcs.size)
  refine hK.out _ _ (HY.out _ hx5) (fun hHeld => ?_)
  clear hK K
  try simp only [Act.put, List.setIfInBounds_toArray, List.set_cons_zero, List.set_cons_succ]
  refine takeH2 12 44 (v := ?_) rfl rfl (by kernel_rfl) (by kernel_rfl) (by kernel_rfl) (fun _ _ _ h => h) (by rfl) (by assumption) ?_ ?_
  rotate_left
  ·intro w hSw; go_simp; (first | done | with_reducible rfl | rfl)
  try simp only [Act.put, List.setIfInBounds_toArray, List.set_cons_zero, List.set_cons_succ]
  refine takeH2 13 45 (v := ?_) rfl rfl (by kernel_rfl) (by kernel_rfl) (by kernel_rfl) (fun _ _ _ h => h) (by rfl) (by assumption) ?_ ?_
  rotate_left
  ·intro w hSw; go_simp; (first | done | with_reducible rfl | rfl)
  try simp only [Act.put, List.setIfInBounds_toArray, List.set_cons_zero, List.set_cons_succ]
  refine wpAnyH_done (by kernel_rfl) ?_ _
  refine NoPanic.normal ?_
  clear hHeld
  have hB5 := hB3.trans (hx5.mono hB3.size)
  have HZ5 := Lib.hid (mbox HZ3.out hx5)
  have HL5 := Lib.hid ((sSlice sTok).below HL3.out hx5)
  have HX5 := Lib.hid hx5
  clear HKT HZr hBr hwd hcs HW
  cases e5 : (tk.text.toList == kx.toList)
  ·have hkx : X ≠ kindTx k := fun h => by
    rw [← HX.out, h, HKX.out, kindRes_in hk1 hk10, ByteArray.toList_eq] at e5
    simp at e5
   have HKN : Hid (kindAt X 1 = kindAt X (k + 1)) := HKI.out.trans (kindAt_next hk10 hkx)
   clear hkx e5
   go_wp2
   go_roundw
   case rel => exact ⟨k + 1, by omega, by omega, by go_num, Lib.hid (.inl HKN.out), HX5⟩
   case measure => simp [intOf]; omega
  have hkx : X = kindTx k := by
   have h9 := beq_iff_eq.1 e5
   rw [HX.out, h9, HKX.out, kindRes_in hk1 hk10, ByteArray.toList_eq]
  have HKA : Hid (kindAt l[1].text.toList 1 = k) := HKX2.out.trans (HKI.out.trans (kindAt_hit hk10 hkx))
  have HKD2 : Hid (l[1].kind = 1) := by have h9 := HKD.out; rw [HTK.out] at h9; exact h9
  clear hkx HKI e5
  obtain ⟨fd, RD, hfd⟩ := slice_drop 2 (by omega) HL5.out
  rw [Option.map_some, Addr.add_lit, show sTok.m = 4 from rfl] at RD
  have ba := alloc_below' w5 (.cells #[] 47)
  have HO0 := Lib.hid (RowN.lit0 sTok 47 w5 (Nat.le_refl _))
  have HRD := Lib.hid ((sSlice sTok).below RD ba)
  have HFD := Lib.hid hfd
  have HLT := Lib.hid ((sSlice sTok).lt HL5.out)
  have s2 : (2 : Int) ≤ (l.length : Int) := by omega
  have s3 : 2 ≤ l.length := by omega
  have s4 : 2 ≤ cap := by omega
  have s5 : (2 : Int) ≤ (cap : Int) := by omega
  clear RD hfd
  by_cases hcap : cap = 2
  ·subst hcap
   rw [if_pos rfl, show l.length - 2 = 0 by omega] at HRD
   go_upto_region 11 with (at_builtin; refine wp_append_anyN ti_tok rfl (by decide) tok_one1 _ rfl (.tmp 47) (.tmp 49) rfl w5.heap.size (.slice (some ⟨w5.heap.size, 0, none⟩) 0 0) (.slice (some ⟨b1, o1, none⟩) 0 0) (l.drop 2) fd rfl HO0.out rfl HRD.out (fun b hb e => by simp only [Value.ownBlock, Option.some.injEq] at e; have := HLT.out b (HFD.out b hb); omega) (by unfold maxLen; rw [List.length_drop]; simp; omega) (by rw [List.length_drop]; simp; omega) ba.size ?_; intro v6 Y w6 hY hYf hR6 hg6 hp6; rw [List.nil_append] at hR6; obtain ⟨a6, c6, hv6, -⟩ := hR6.val; subst hv6)
   obtain ⟨f6, r6, rf6, -⟩ := hR6.read
   rw [hY] at r6
   have hb6 : Below w5.heap.size w5 w6 := ba.grown hg6 ba.size (fun b hb => by simp only [Value.ownBlock, Option.some.injEq] at hb; omega)
   have HWS : Hid (w.heap.size + 1 ≤ w5.heap.size) := by
    have h9 := mlt HZ5.out
    show _ ≤ _
    omega
   have HF6 : Hid (∀ b ∈ f6, w.heap.size + 1 ≤ b) := fun b hb => by
    rcases rf6 b hb with h | ⟨x, hx, h⟩
    ·have h8 := (hR6.mine b h).1
     have h9 := HWS.out
     omega
    ·exact LO1.out b (HFD.out b (hYf x hx b h))
   have HB6 := Lib.hid (hB5.trans (hb6.mono hB5.size))
   have HZ6 := Lib.hid (mbox HZ5.out hb6)
   have bB := alloc_below' w6 (.cells #[.int .i64 (k : Nat), .slice a6 Y.length c6] 30)
   have HBX := Lib.hid (heap_alloc_new w6 (.cells #[.int .i64 (k : Nat), .slice a6 Y.length c6] 30))
   have HR7 := Lib.hid ((sSlice sTok).below r6 bB)
   have HZ7 := Lib.hid (mbox HZ6.out bB)
   have HB7 := Lib.hid (HB6.out.trans (bB.mono HB6.out.size))
   obtain ⟨N, HN⟩ : ∃ N : Nat, Hid (N = Y.length) := ⟨_, Lib.hid rfl⟩
   have HLR := Lib.hid (spec_l14Rest hk1 hk10 _ (l.drop 2) f6 _ (by rw [List.length_drop]; omega) (fun j hj => by rw [List.getElem_drop]; exact HXX.out _ _) HR7.out)
   rw [show Y.length = N from HN.out.symm] at HBX HR7 HZ7 HB7 HLR ⊢
   clear hR6 r6 rf6 hg6 hp6 hb6 hY hYf bB HZ6 HB6 HZ5 HX5 hB5
   generalize (w6.alloc (.cells #[.int .i64 (k : Nat), .slice a6 N c6] 30)) = w7 at *
   obtain ⟨bx, HBB⟩ : ∃ bx : Nat, Hid (bx = w6.heap.size) := ⟨_, Lib.hid rfl⟩
   rw [show w6.heap.size = bx from HBB.out.symm] at HBX ⊢
   have p0 := cell_of_row w7 bx 0 _ _ _ HBX.out
   have p1 := cell_of_row w7 bx 1 _ _ _ HBX.out
   cases hr : restOk k (l.drop 2)
   ·have HF : Hid (dirRes l = ((0, []), false)) := dir_no HVV.out HM0.out HH1.out (fun h => by have h9 : restOk k (l.drop 2) = true := (congrArg (fun q => restOk q (l.drop 2)) HKA.out).symm.trans h.2.2; rw [hr] at h9; exact absurd h9 (by simp))
    rw [hr] at HLR
    clear hr
    go_wp2_with fail
    refine HLR.out.mono ?_
    rintro e w8 ⟨rfl, hb8⟩
    have hB8 := HB7.out.trans (hb8.mono HB7.out.size)
    have HZ8 := Lib.hid (mbox HZ7.out hb8)
    clear p0 p1
    have z0 : w8.cell? ⟨w.heap.size, 0, none⟩ = some (.int .i64 0) := cell_of_row _ _ 0 _ _ _ HZ8.out
    have zf0 : w8.frozen? ⟨w.heap.size, 0, none⟩ = false := frozen_of_row _ _ 0 _ _ HZ8.out
    have z1 : w8.cell? ⟨w.heap.size, 1, none⟩ = some (.slice none 0 0) := cell_of_row _ _ 1 _ _ _ HZ8.out
    have zf1 : w8.frozen? ⟨w.heap.size, 1, none⟩ = false := frozen_of_row _ _ 1 _ _ HZ8.out
    have HS := Lib.hid (blk_set (blk_set HZ8.out 0 (.int .i64 0)) 1 (.slice none 0 0))
    have HBF := Lib.hid ((hB8.setCell (p := ⟨w.heap.size, 0, none⟩) (Nat.le_refl _) (.int .i64 0)).setCell (p := ⟨w.heap.size, 1, none⟩) (Nat.le_refl _) (.slice none 0 0))
    go_wp2
    refine bodyPost_ret (results_cell2 rfl _ _ w.heap.size _ _ _ _ rfl HS.out Tryd.underlying30 rfl (by kernel_rfl)) rfl ?_
    exact retDir_no HF.out HBF.out
   have HF := Lib.hid (dir_yes HVV.out HM0.out HH1.out HKD2.out HKA.out (by omega) hr)
   rw [hr] at HLR
   clear hr
   go_wp2_with fail
   refine HLR.out.mono ?_
   rintro e w8 ⟨rfl, hb8⟩
   have hB8 := HB7.out.trans (hb8.mono HB7.out.size)
   have HZ8 := Lib.hid (mbox HZ7.out hb8)
   have HBX8 := Lib.hid (mbox HBX.out hb8)
   have HR8 := Lib.hid ((sSlice sTok).below HR7.out hb8)
   clear p0 p1 hb8 HLR
   have p0 := cell_of_row w8 bx 0 _ _ _ HBX8.out
   have p1 := cell_of_row w8 bx 1 _ _ _ HBX8.out
   have z0 : w8.cell? ⟨w.heap.size, 0, none⟩ = some (.int .i64 0) := cell_of_row _ _ 0 _ _ _ HZ8.out
   have zf0 : w8.frozen? ⟨w.heap.size, 0, none⟩ = false := frozen_of_row _ _ 0 _ _ HZ8.out
   have z1 : w8.cell? ⟨w.heap.size, 1, none⟩ = some (.slice none 0 0) := cell_of_row _ _ 1 _ _ _ HZ8.out
   have zf1 : w8.frozen? ⟨w.heap.size, 1, none⟩ = false := frozen_of_row _ _ 1 _ _ HZ8.out
   have HS := Lib.hid (blk_set (blk_set HZ8.out 0 (.int .i64 (k : Nat))) 1 (.slice a6 N c6))
   have HBF := Lib.hid ((hB8.setCell (p := ⟨w.heap.size, 0, none⟩) (Nat.le_refl _) (.int .i64 (k : Nat))).setCell (p := ⟨w.heap.size, 1, none⟩) (Nat.le_refl _) (.slice a6 N c6))
   have hnf : w.heap.size ∉ f6 := fun h => by have := HF6.out _ h; omega
   have HRF := Lib.hid ((sSlice sTok).setB ((sSlice sTok).setB HR8.out hnf 0 (.int .i64 (k : Nat))) hnf 1 (.slice a6 N c6))
   go_wp2
   refine bodyPost_ret (results_cell2 rfl _ _ w.heap.size _ _ _ _ rfl HS.out Tryd.underlying30 rfl (by kernel_rfl)) rfl ?_
   exact ⟨.slice a6 N c6, f6, by rw [HF.out]; rfl, by rw [HF.out]; exact HRF.out, fun b hb => by have := HF6.out b hb; omega, HBF.out⟩
  rw [if_neg hcap] at HRD
  go_upto_region 11 with (at_builtin; refine wp_append_anyN ti_tok rfl (by decide) tok_one1 _ rfl (.tmp 47) (.tmp 49) rfl w5.heap.size (.slice (some ⟨w5.heap.size, 0, none⟩) 0 0) (.slice (some ⟨b1, o1 + 2 * 4, none⟩) (l.length - 2) (cap - 2)) (l.drop 2) fd rfl HO0.out rfl HRD.out (fun b hb e => by simp only [Value.ownBlock, Option.some.injEq] at e; have := HLT.out b (HFD.out b hb); omega) (by unfold maxLen; rw [List.length_drop]; simp; omega) (by rw [List.length_drop]; simp; omega) ba.size ?_; intro v6 Y w6 hY hYf hR6 hg6 hp6; rw [List.nil_append] at hR6; obtain ⟨a6, c6, hv6, -⟩ := hR6.val; subst hv6)
  obtain ⟨f6, r6, rf6, -⟩ := hR6.read
  rw [hY] at r6
  have hb6 : Below w5.heap.size w5 w6 := ba.grown hg6 ba.size (fun b hb => by simp only [Value.ownBlock, Option.some.injEq] at hb; omega)
  have HWS : Hid (w.heap.size + 1 ≤ w5.heap.size) := by
   have h9 := mlt HZ5.out
   show _ ≤ _
   omega
  have HF6 : Hid (∀ b ∈ f6, w.heap.size + 1 ≤ b) := fun b hb => by
   rcases rf6 b hb with h | ⟨x, hx, h⟩
   ·have h8 := (hR6.mine b h).1
    have h9 := HWS.out
    omega
   ·exact LO1.out b (HFD.out b (hYf x hx b h))
  have HB6 := Lib.hid (hB5.trans (hb6.mono hB5.size))
  have HZ6 := Lib.hid (mbox HZ5.out hb6)
  have bB := alloc_below' w6 (.cells #[.int .i64 (k : Nat), .slice a6 Y.length c6] 30)
  have HBX := Lib.hid (heap_alloc_new w6 (.cells #[.int .i64 (k : Nat), .slice a6 Y.length c6] 30))
  have HR7 := Lib.hid ((sSlice sTok).below r6 bB)
  have HZ7 := Lib.hid (mbox HZ6.out bB)
  have HB7 := Lib.hid (HB6.out.trans (bB.mono HB6.out.size))
  obtain ⟨N, HN⟩ : ∃ N : Nat, Hid (N = Y.length) := ⟨_, Lib.hid rfl⟩
  have HLR := Lib.hid (spec_l14Rest hk1 hk10 _ (l.drop 2) f6 _ (by rw [List.length_drop]; omega) (fun j hj => by rw [List.getElem_drop]; exact HXX.out _ _) HR7.out)
  rw [show Y.length = N from HN.out.symm] at HBX HR7 HZ7 HB7 HLR ⊢
  clear hR6 r6 rf6 hg6 hp6 hb6 hY hYf bB HZ6 HB6 HZ5 HX5 hB5
  generalize (w6.alloc (.cells #[.int .i64 (k : Nat), .slice a6 N c6] 30)) = w7 at *
  obtain ⟨bx, HBB⟩ : ∃ bx : Nat, Hid (bx = w6.heap.size) := ⟨_, Lib.hid rfl⟩
  rw [show w6.heap.size = bx from HBB.out.symm] at HBX ⊢
  have p0 := cell_of_row w7 bx 0 _ _ _ HBX.out
  have p1 := cell_of_row w7 bx 1 _ _ _ HBX.out
  cases hr : restOk k (l.drop 2)
  ·have HF : Hid (dirRes l = ((0, []), false)) := dir_no HVV.out HM0.out HH1.out (fun h => by have h9 : restOk k (l.drop 2) = true := (congrArg (fun q => restOk q (l.drop 2)) HKA.out).symm.trans h.2.2; rw [hr] at h9; exact absurd h9 (by simp))
   rw [hr] at HLR
   clear hr
   go_wp2_with fail
   refine HLR.out.mono ?_
   rintro e w8 ⟨rfl, hb8⟩
   have hB8 := HB7.out.trans (hb8.mono HB7.out.size)
   have HZ8 := Lib.hid (mbox HZ7.out hb8)
   clear p0 p1
   have z0 : w8.cell? ⟨w.heap.size, 0, none⟩ = some (.int .i64 0) := cell_of_row _ _ 0 _ _ _ HZ8.out
   have zf0 : w8.frozen? ⟨w.heap.size, 0, none⟩ = false := frozen_of_row _ _ 0 _ _ HZ8.out
   have z1 : w8.cell? ⟨w.heap.size, 1, none⟩ = some (.slice none 0 0) := cell_of_row _ _ 1 _ _ _ HZ8.out
   have zf1 : w8.frozen? ⟨w.heap.size, 1, none⟩ = false := frozen_of_row _ _ 1 _ _ HZ8.out
   have HS := Lib.hid (blk_set (blk_set HZ8.out 0 (.int .i64 0)) 1 (.slice none 0 0))
   have HBF := Lib.hid ((hB8.setCell (p := ⟨w.heap.size, 0, none⟩) (Nat.le_refl _) (.int .i64 0)).setCell (p := ⟨w.heap.size, 1, none⟩) (Nat.le_refl _) (.slice none 0 0))
   go_wp2
   refine bodyPost_ret (results_cell2 rfl _ _ w.heap.size _ _ _ _ rfl HS.out Tryd.underlying30 rfl (by kernel_rfl)) rfl ?_
   exact retDir_no HF.out HBF.out
  have HF := Lib.hid (dir_yes HVV.out HM0.out HH1.out HKD2.out HKA.out (by omega) hr)
  rw [hr] at HLR
  clear hr
  go_wp2_with fail
  refine HLR.out.mono ?_
  rintro e w8 ⟨rfl, hb8⟩
  have hB8 := HB7.out.trans (hb8.mono HB7.out.size)
  have HZ8 := Lib.hid (mbox HZ7.out hb8)
  have HBX8 := Lib.hid (mbox HBX.out hb8)
  have HR8 := Lib.hid ((sSlice sTok).below HR7.out hb8)
  clear p0 p1 hb8 HLR
  have p0 := cell_of_row w8 bx 0 _ _ _ HBX8.out
  have p1 := cell_of_row w8 bx 1 _ _ _ HBX8.out
  have z0 : w8.cell? ⟨w.heap.size, 0, none⟩ = some (.int .i64 0) := cell_of_row _ _ 0 _ _ _ HZ8.out
  have zf0 : w8.frozen? ⟨w.heap.size, 0, none⟩ = false := frozen_of_row _ _ 0 _ _ HZ8.out
  have z1 : w8.cell? ⟨w.heap.size, 1, none⟩ = some (.slice none 0 0) := cell_of_row _ _ 1 _ _ _ HZ8.out
  have zf1 : w8.frozen? ⟨w.heap.size, 1, none⟩ = false := frozen_of_row _ _ 1 _ _ HZ8.out
  have HS := Lib.hid (blk_set (blk_set HZ8.out 0 (.int .i64 (k : Nat))) 1 (.slice a6 N c6))
  have HBF := Lib.hid ((hB8.setCell (p := ⟨w.heap.size, 0, none⟩) (Nat.le_refl _) (.int .i64 (k : Nat))).setCell (p := ⟨w.heap.size, 1, none⟩) (Nat.le_refl _) (.slice a6 N c6))
  have hnf : w.heap.size ∉ f6 := fun h => by have := HF6.out _ h; omega
  have HRF := Lib.hid ((sSlice sTok).setB ((sSlice sTok).setB HR8.out hnf 0 (.int .i64 (k : Nat))) hnf 1 (.slice a6 N c6))
  go_wp2
  refine bodyPost_ret (results_cell2 rfl _ _ w.heap.size _ _ _ _ rfl HS.out Tryd.underlying30 rfl (by kernel_rfl)) rfl ?_
  exact ⟨.slice a6 N c6, f6, by rw [HF.out]; rfl, by rw [HF.out]; exact HRF.out, fun b hb => by have := HF6.out b hb; omega, HBF.out⟩

end Go.Proofs.YtlegeancmcmbaaaDoor

/- Stripping again changes nothing: lists of bytes alone. -/
namespace Go.Proofs.YtlegeancmcmbaaaDoor
open Go.RowKit

def tLen : List UInt8 → Nat
 | [] => 0
 | [c] => 1
 | c :: d :: r => if c = 34 then 1 else if c = 92 then 2 + tLen r else 1 + tLen (d :: r)
theorem tLen_le : ∀ l, tLen l ≤ l.length
 | [] => by simp [tLen]
 | [c] => by simp [tLen]
 |
  c :: d :: r => by
  have h1 := tLen_le r
  have h2 := tLen_le (d :: r)
  rw [tLen]
  simp only [List.length_cons] at *
  split
  ·omega
  ·split <;> omega
theorem tLen_pos (c : UInt8) (r : List UInt8) : 1 ≤ tLen (c :: r) := by
 cases r with
 | nil => simp [tLen]
 |
  cons d t =>
  rw [tLen]
  split
  ·omega
  ·split <;> omega
theorem tLen_app : ∀ (l : List UInt8), (∀ x, tLen (l.take (tLen l) ++ x) = tLen l) ∨ l.drop (tLen l) = []
 | [] => .inr rfl
 | [c] => .inr rfl
 |
  c :: d :: r => by
  by_cases h1 : c = 34
  ·left
   intro x
   have e : tLen (c :: d :: r) = 1 := by rw [tLen, if_pos h1]
   rw [e]
   cases x with
   | nil => rfl
   | cons y t => simp [tLen, h1]
  ·by_cases h2 : c = 92
   ·have e : tLen (c :: d :: r) = 2 + tLen r := by rw [tLen, if_neg h1, if_pos h2]
    rw [e]
    have e2 : 2 + tLen r = tLen r + 1 + 1 := by omega
    rcases tLen_app r with h | h
    ·left
     intro x
     rw [e2, List.take_succ_cons, List.take_succ_cons, List.cons_append, List.cons_append, tLen, if_neg h1, if_pos h2, h x, e2.symm]
    ·right
     rw [e2, List.drop_succ_cons, List.drop_succ_cons, h]
   ·have e : tLen (c :: d :: r) = 1 + tLen (d :: r) := by rw [tLen, if_neg h1, if_neg h2]
    rw [e]
    have e2 : 1 + tLen (d :: r) = tLen (d :: r) + 1 := by omega
    rcases tLen_app (d :: r) with h | h
    ·left
     intro x
     have hx := h x
     have hp := tLen_pos d r
     rw [e2, List.take_succ_cons, List.cons_append]
     obtain ⟨n, hn⟩ : ∃ n, tLen (d :: r) = n + 1 := ⟨tLen (d :: r) - 1, by omega⟩
     rw [hn] at hx ⊢
     rw [List.take_succ_cons, List.cons_append] at hx ⊢
     rw [tLen, if_neg h1, if_neg h2, hx]
     omega
    ·right
     rw [e2, List.drop_succ_cons, h]
def F (l : List UInt8) : Option (List UInt8) :=
 match l with
 | [] => some []
 |
  c :: r =>
  if [47, 47].isPrefixOf (c :: r) = true then some []
  else if [47, 42].isPrefixOf (c :: r) = true then
   if Lib.index (r.drop 1) [42, 47] < 0 then none else (F (r.drop (1 + (Lib.index (r.drop 1) [42, 47]).toNat + 2))).map (32 :: ·)
  else if c = 34 then (F (r.drop (tLen r))).map ((c :: r.take (tLen r)) ++ ·)
  else (F r).map (c :: ·)
termination_by l.length
decreasing_by
 all_goals simp_wf
 all_goals omega

theorem pre_cons (a b c : UInt8) (r : List UInt8) : [a, b].isPrefixOf (c :: r) = (a == c && [b].isPrefixOf r) := rfl
theorem pre_one (b : UInt8) (r : List UInt8) : [b].isPrefixOf r = true ↔ ∃ t, r = b :: t := by
 cases r with
 | nil => simp
 |
  cons x t =>
  have e : [b].isPrefixOf (x :: t) = (b == x && true) := rfl
  rw [e, Bool.and_true, beq_iff_eq]
  exact ⟨fun h => ⟨t, by rw [h]⟩, fun ⟨t', h⟩ => by cases h; rfl⟩

def Begins (l m : List UInt8) : Prop := m = [] ∨ (∃ x t, m = x :: t ∧ (x = 32 ∨ l.head? = some x))
theorem F_again (l : List UInt8) : ∀ m, F l = some m → F m = some m ∧ Begins l m ∧ m.length ≤ l.length ∧ ∀ x ∈ m, x ∈ l ∨ x = 32 := by
 induction l using F.induct with
 | case1 => intro m h; rw [F] at h; cases h; exact ⟨by rw [F], .inl rfl, by simp, by simp⟩
 | case2 c r h1 => intro m h; rw [F, if_pos h1] at h; cases h; exact ⟨by rw [F], .inl rfl, by simp, by simp⟩
 | case3 c r h1 h2 h3 => intro m h; rw [F, if_neg h1, if_pos h2, if_pos h3] at h; cases h
 |
  case4 c r h1 h2 h3 ih =>
  intro m h
  rw [F, if_neg h1, if_pos h2, if_neg h3] at h
  obtain ⟨m', hm', rfl⟩ := Option.map_eq_some_iff.1 h
  obtain ⟨i1, i2, i3, i4⟩ := ih m' hm'
  refine ⟨?_, .inr ⟨32, m', rfl, .inl rfl⟩, ?_, ?_⟩
  ·rw [F, if_neg (by simp [pre_cons]), if_neg (by simp [pre_cons]), if_neg (by decide), i1]; rfl
  ·simp only [List.length_cons, List.length_drop] at i3 ⊢; omega
  ·intro x hx
   rcases List.mem_cons.1 hx with rfl | hx
   ·exact .inr rfl
   ·rcases i4 x hx with h | h
    ·exact .inl (List.mem_cons_of_mem _ (List.mem_of_mem_drop h))
    ·exact .inr h
 |
  case5 r h1 h2 ih =>
  intro m h
  rw [F, if_neg h1, if_neg h2, if_pos rfl] at h
  obtain ⟨m', hm', rfl⟩ := Option.map_eq_some_iff.1 h
  obtain ⟨i1, i2, i3, i4⟩ := ih m' hm'
  have hl := tLen_le r
  have hlen : (r.take (tLen r)).length = tLen r := by rw [List.length_take]; omega
  have ht : tLen (r.take (tLen r) ++ m') = tLen r := by
   rcases tLen_app r with hd | hd
   ·exact hd m'
   ·rw [hd, F] at hm'
    cases hm'
    have := congrArg List.length hd
    simp only [List.length_drop, List.length_nil] at this
    rw [List.append_nil, List.take_of_length_le (by omega)]
  refine ⟨?_, .inr ⟨34, _, rfl, .inr rfl⟩, ?_, ?_⟩
  ·show F (34 :: (r.take (tLen r) ++ m')) = _
   rw [F, if_neg (by simp [pre_cons]), if_neg (by simp [pre_cons]), if_pos rfl, ht, List.drop_append_of_le_length (by omega), List.drop_of_length_le (by omega), List.nil_append, i1, List.take_append_of_le_length (by omega), List.take_of_length_le (by omega)]
   rfl
  ·simp only [List.length_cons, List.length_append, List.length_drop, hlen] at i3 ⊢; omega
  ·intro x hx
   rcases List.mem_append.1 hx with hx | hx
   ·rcases List.mem_cons.1 hx with rfl | hx
    ·exact .inl (by simp)
    ·exact .inl (List.mem_cons_of_mem _ (List.mem_of_mem_take hx))
   ·rcases i4 x hx with h | h
    ·exact .inl (List.mem_cons_of_mem _ (List.mem_of_mem_drop h))
    ·exact .inr h
 |
  case6 c r h1 h2 h3 ih =>
  intro m h
  rw [F, if_neg h1, if_neg h2, if_neg h3] at h
  obtain ⟨m', hm', rfl⟩ := Option.map_eq_some_iff.1 h
  obtain ⟨i1, i2, i3, i4⟩ := ih m' hm'
  have no : ∀ b : UInt8, b ≠ 32 → ¬ [47, b].isPrefixOf (c :: r) = true → ¬ [47, b].isPrefixOf (c :: m') = true := by
   intro b hb hno hyes
   rw [pre_cons, Bool.and_eq_true] at hyes hno
   obtain ⟨t, rfl⟩ := (pre_one b m').1 hyes.2
   rcases i2 with h | ⟨x, t', he, h⟩
   ·cases h
   ·simp only [List.cons.injEq] at he
    obtain ⟨rfl, rfl⟩ := he
    rcases h with h | h
    ·exact hb h
    ·apply hno
     refine ⟨hyes.1, (pre_one b r).2 ?_⟩
     cases r with
     | nil => cases h
     | cons y r => simp only [List.head?_cons, Option.some.injEq] at h; exact ⟨r, by rw [h]⟩
  refine ⟨?_, .inr ⟨c, m', rfl, .inr rfl⟩, ?_, ?_⟩
  ·rw [F, if_neg (no 47 (by decide) h1), if_neg (no 42 (by decide) h2), if_neg h3, i1]; rfl
  ·simp only [List.length_cons]; omega
  ·intro x hx
   rcases List.mem_cons.1 hx with rfl | hx
   ·exact .inl (by simp)
   ·rcases i4 x hx with h | h
    ·exact .inl (List.mem_cons_of_mem _ h)
    ·exact .inr h

theorem list_len (s : ByteArray) : s.data.toList.length = s.size := Array.length_toList
theorem list_at (s : ByteArray) (k : Nat) (h : k < s.size) : s.data.toList[k]'(by rw [list_len]; exact h) = s[k] := by rw [Array.getElem_toList]; rfl
theorem tEnd_len (s : ByteArray) (k : Nat) : k ≤ s.size → tEnd s k = k + tLen (s.data.toList.drop k) := by
 have hL := list_len s
 induction k using tEnd.induct (s := s) with
 |
  case1 k h hc =>
  intro _
  have e : s.data.toList[k]'(by omega) = 34 := by rw [list_at s k h]; exact UInt8.toNat_inj.1 hc
  rw [tEnd_quote h hc, List.drop_eq_getElem_cons (by omega), e]
  cases s.data.toList.drop (k + 1) <;> simp [tLen]
 |
  case2 k h h1 hc ih =>
  intro _
  have e : s.data.toList[k]'(by omega) = 92 := by rw [list_at s k h]; exact UInt8.toNat_inj.1 hc
  rw [tEnd_back h hc, List.drop_eq_getElem_cons (by omega), e]
  by_cases h2 : k + 1 < s.size
  ·rw [ih (by omega), List.drop_eq_getElem_cons (i := k + 1) (by omega), tLen, if_neg (by decide), if_pos rfl]
   have e3 : k + 2 = k + 1 + 1 := rfl
   rw [e3]
   omega
  ·rw [tEnd_out (by omega), List.drop_of_length_le (by omega)]
   simp [tLen]; omega
 |
  case3 k h h1 h2 ih =>
  intro _
  have e1 : ¬ s.data.toList[k]'(by omega) = 34 := by rw [list_at s k h]; intro e; exact h1 (by rw [e]; rfl)
  have e2 : ¬ s.data.toList[k]'(by omega) = 92 := by rw [list_at s k h]; intro e; exact h2 (by rw [e]; rfl)
  rw [tEnd_else h h1 h2, List.drop_eq_getElem_cons (by omega)]
  by_cases h3 : k + 1 < s.size
  ·rw [ih (by omega), List.drop_eq_getElem_cons (i := k + 1) (by omega), tLen, if_neg e1, if_neg e2]
   omega
  ·rw [tEnd_out (by omega), List.drop_of_length_le (by omega)]
   simp [tLen]; omega
 | case4 k h => intro _; rw [tEnd_out (by omega), List.drop_of_length_le (by omega)]; simp [tLen]; omega

def toB (l : List UInt8) : ByteArray := ⟨l.toArray⟩
theorem toB_app (a b : List UInt8) : toB (a ++ b) = toB a ++ toB b := by apply Go.WideShapes.bytes_inj; simp [toB]
theorem toB_ext (s : ByteArray) (i j : Nat) : s.extract i j = toB ((s.data.toList.drop i).take (j - i)) := by apply Go.WideShapes.bytes_inj; rw [ext_list]; simp [toB]
theorem map_app (o : Option (List UInt8)) (p : ByteArray) (q : List UInt8) (h : p = toB q) : (o.map toB).map (p ++ ·) = (o.map (q ++ ·)).map toB := by
 subst h
 cases o with
 | none => rfl
 | some x => exact congrArg some (toB_app q x).symm
theorem strip1_F (s : ByteArray) (k : Nat) : strip1 s k = (F (s.data.toList.drop k)).map toB := by
 have hL := list_len s
 induction k using strip1.induct (s := s) with
 |
  case1 k h h1 =>
  rw [strip1, dif_pos h, if_pos h1]
  unfold two at h1
  rw [List.drop_eq_getElem_cons (by omega)] at h1 ⊢
  rw [F, if_pos h1]; rfl
 |
  case2 k h h1 h2 h3 =>
  rw [strip1, dif_pos h, if_neg h1, if_pos h2, if_pos h3]
  unfold two at h1 h2
  rw [List.drop_eq_getElem_cons (by omega)] at h1 h2 ⊢
  have hi : Lib.index (s.data.toList.drop (k + 1 + 1)) [42, 47] < 0 := by
   unfold cEnd at h3
   have : k + 2 = k + 1 + 1 := rfl
   rw [this] at h3
   split at h3
   ·assumption
   ·have := Lib.index_ge (s.data.toList.drop (k + 1 + 1)) [42, 47]; omega
  rw [F, if_neg h1, if_pos h2, List.drop_drop, if_pos hi]; rfl
 |
  case3 k h h1 h2 h3 ih =>
  rw [strip1, dif_pos h, if_neg h1, if_pos h2, if_neg h3, ih]
  have hc : cEnd s (k + 2) = (k : Int) + 2 + Lib.index (s.data.toList.drop (k + 1 + 1)) [42, 47] + 2 ∧ ¬ Lib.index (s.data.toList.drop (k + 1 + 1)) [42, 47] < 0 := by
   unfold cEnd at h3 ⊢
   have : k + 2 = k + 1 + 1 := rfl
   rw [this] at h3 ⊢
   split at h3
   ·omega
   ·rename_i hn; rw [if_neg hn]; exact ⟨by omega, hn⟩
  unfold two at h1 h2
  rw [List.drop_eq_getElem_cons (by omega)] at h1 h2
  rw [List.drop_eq_getElem_cons (i := k) (by omega), F, if_neg h1, if_pos h2, List.drop_drop, if_neg hc.2, List.drop_drop, Nat.max_eq_right (by omega), show (cEnd s (k + 2)).toNat = k + 1 + (1 + (Lib.index (s.data.toList.drop (k + 1 + 1)) [42, 47]).toNat + 2) from by omega]
  exact map_app _ _ [32] rfl
 |
  case4 k h h1 h2 h3 ih =>
  rw [strip1, dif_pos h, if_neg h1, if_neg h2, if_pos h3, ih]
  have hb := tEnd_bounds s (k + 1)
  have hb2 := hb.2 (by omega)
  have ht := tEnd_len s (k + 1) (by omega)
  have e : s.data.toList[k]'(by omega) = 34 := by rw [list_at s k h]; exact UInt8.toNat_inj.1 h3
  unfold two at h1 h2
  rw [List.drop_eq_getElem_cons (by omega)] at h1 h2
  rw [List.drop_eq_getElem_cons (i := k) (by omega), F, if_neg h1, if_neg h2, if_pos e, List.drop_drop, Nat.max_eq_right (by omega), ← ht]
  refine map_app _ _ _ ?_
  rw [toB_ext, List.drop_eq_getElem_cons (by omega), show tEnd s (k + 1) - k = tLen (s.data.toList.drop (k + 1)) + 1 from by omega, List.take_succ_cons]
 |
  case5 k h h1 h2 h3 ih =>
  rw [strip1, dif_pos h, if_neg h1, if_neg h2, if_neg h3, ih]
  have e : ¬ s.data.toList[k]'(by omega) = 34 := by rw [list_at s k h]; intro e; exact h3 (by rw [e]; rfl)
  unfold two at h1 h2
  rw [List.drop_eq_getElem_cons (by omega)] at h1 h2
  rw [List.drop_eq_getElem_cons (i := k) (by omega), F, if_neg h1, if_neg h2, if_neg e]
  refine map_app _ _ [_] ?_
  rw [toB_ext, List.drop_eq_getElem_cons (by omega), show k + 1 - k = 0 + 1 from by omega, List.take_succ_cons, List.take_zero]
 | case6 k h => rw [strip1, dif_neg h, List.drop_of_length_le (by omega), F]; rfl

theorem strip_again {s x : ByteArray} (h : stripRes s = (x, true)) : stripRes x = (x, true) ∧ x.size ≤ s.size ∧ lineOk x = true := by
 unfold stripRes at h
 split at h
 ·rename_i h0
  rw [strip1_F, List.drop_zero] at h
  cases hF : F s.data.toList with
  | none => rw [hF] at h; cases h
  |
   some m =>
   rw [hF] at h
   have hx : x = toB m := by
    have : (toB m, true) = (x, true) := h
    exact (Prod.mk.inj this).1.symm
   obtain ⟨a1, _, a3, a4⟩ := F_again _ _ hF
   have hm : x.data.toList = m := by rw [hx]; simp [toB]
   have hsz : x.size ≤ s.size := by rw [← list_len x, ← list_len s, hm]; exact a3
   have hok : lineOk x = true := by
    unfold lineOk at h0 ⊢
    rw [Bool.and_eq_true, decide_eq_true_eq, List.all_eq_true] at h0 ⊢
    refine ⟨by omega, fun b hb => ?_⟩
    rw [hm] at hb
    rcases a4 b hb with h | rfl
    ·exact h0.2 b h
    ·decide
   refine ⟨?_, hsz, hok⟩
   refine stripRes_some hok ?_
   rw [strip1_F, List.drop_zero, hm, a1, hx]; rfl
 ·cases h

end Go.Proofs.YtlegeancmcmbaaaDoor

/- ReadDirective of the model. -/
namespace Go.Proofs.YtlegeancmcmbaaaDoor
open Go.RowKit

theorem tok_hidOkD {t : Tok} (h : tokOk t = true) : t.hidden.length ≤ 60 := by
 unfold tokOk hidOk at h
 simp only [Bool.and_eq_true, decide_eq_true_eq] at h
 omega
theorem strip_size {s : ByteArray} : (stripRes s).1.size ≤ s.size := by
 rcases hq : stripRes s with ⟨x, b⟩
 cases b
 ·have : x = ⟨#[]⟩ := by
   unfold stripRes at hq
   split at hq
   ·split at hq
    ·simp at hq; exact hq.symm
    ·simp at hq
   ·simp at hq; exact hq.symm
  subst this
  exact Nat.zero_le _
 ·exact (strip_again hq).2.1

end Go.Proofs.YtlegeancmcmbaaaDoor

/- The drawing of the tokens of directives. -/
namespace Go.Proofs.YtlegeancmcmbaaaDoor
open Go.RowKit

set_option maxHeartbeats 8000000 in
set_option maxRecDepth 100000 in
theorem DrawDirectiveOf (v : Value) (l : List UInt8) (fp : List Nat) (w : World) (H : (sSlice sByte).R w [v] l fp) :
  Calls Tryd.prog 26 #[v] w (DrawnList w) := by
 go_enter Tryd.func26, Tryd.ntmps26
 go_wp2_with fail
 refine (l20Open _ l fp _ H).mono ?_
 rintro e w1 ⟨rb, rfl, hrb, hR, hB⟩
 go_wp2_with fail
 refine (l20Order (jRd.begin hR) (by omega)).mono ?_
 rintro e w2 ⟨s, rfl, hs, hJ2, hK2⟩
 have hB2 := kept_below hB hK2 hrb hB.size
 obtain ⟨⟨p2, hp2, hR2⟩, -⟩ := hJ2
 go_wp2_with fail
 refine (spec_StripComments s w2 (by unfold maxLen; omega)).mono ?_
 rintro e w3 ⟨rfl, hb3⟩
 have hB3 := hB2.trans (hb3.mono hB2.size)
 have hR3 := hR2.grow hb3
 have hsz := strip_size (s := s)
 obtain ⟨x, HX⟩ : ∃ x : ByteArray, Hid (x = (stripRes s).1) := ⟨_, Lib.hid rfl⟩
 rw [show (stripRes s).1 = x from HX.out.symm] at hsz ⊢
 generalize (stripRes s).2 = bs at *
 clear hK2 hR2 hb3 hB hB2 hR HX
 go_wp2_with fail
 refine (spec_TokensOf_row x w3 (by unfold maxLen; omega)).mono ?_
 rintro e w4 ⟨v4, rfl, hrow, hfr, hB4⟩
 have hcnt := (tokRes_all x).1
 obtain ⟨hE0, hok0⟩ := toks_rowE hrow hfr (by omega)
 have HR4 := Lib.hid (hR3.grow hB4)
 have HB4 := Lib.hid (hB3.trans (hB4.mono hB3.size))
 have HE4 := Lib.hid hE0
 have hX1 := hR3.lt
 have hX2 := hB4.size
 have hX3 := hB3.size
 have HN : Hid (((tokRes x).1.map elemTok).length ≤ 60) := by show _ ≤ _; rw [List.length_map]; exact hcnt
 generalize (tokRes x).1.map elemTok = L0 at hE0 HE4 hok0 HN
 generalize (tokRes x).2 = b0 at *
 have HOK := Lib.hid hok0
 clear hrow hfr hcnt hB4 hE0 hok0 hB3 hR3
 go_wp2_with fail
 refine (odd rb p2 _ _ HR4.out (by omega) (by omega) (by omega)).mono ?_
 rintro e w5 ⟨b, q5, rfl, hq51, hq52, hR5, hK5⟩
 have hE5 := HE4.out.keptR hK5 hX1
 have hX5 := hK5.size
 have hB5 := kept_below HB4.out hK5 (by omega) HB4.out.size
 cases b
 ·go_wp2
  go_ret
  exact ⟨v4, L0, rfl, hE5.lower hX3, HOK.out, by have := HN.out; omega, hB5⟩
 ·go_wp2_with fail
  refine (l20Token rb q5 _ _ hR5 (by omega) (by omega) (by omega)).mono ?_
  rintro e w6 ⟨tk, ts, sp, ao, tm, tc, tl, tf, q6, rfl, dR, dok, dlo, dty, hq6, hR6, hK6⟩
  have hE6 := hE5.keptR hK6 hX1
  have hB6 := kept_below hB5 hK6 (by omega) hB5.size
  have HE6 := Lib.hid hE6
  have HB6 := Lib.hid hB6
  have HT := Lib.hid (And.intro dR (And.intro (fun b hb => Nat.le_trans (Nat.le_trans hX2 hX5) (dlo b hb)) dty))
  have HDK := Lib.hid dok
  have hbs := hB6.size
  have hX6 := hK6.size
  have hbX : w3.heap.size ≤ w6.heap.size := by omega
  have HG := Lib.hid (fun b hb => Nat.le_trans hX3 (HE6.out.mine b hb))
  clear hE6 hB6 dR dlo dty dok hK6 hR6 hE5 hB5 hK5 hR5 HE4 HB4 HR4
  go_wp2_with (at_builtin; refine wp_append_tokE rfl (.tmp 23) (.tmp 26) rfl w3.heap.size v4 L0 rfl HE6.out tk ts sp ao tm tc tl tf rfl HT.out.1 HT.out.2.1 HT.out.2.2 (by have := HN.out; omega) hbX ?_; intro v7 w7 hE7 hg7; have HF := Lib.hid (HB6.out.grown hg7 hbs HG.out); have HE7 := Lib.hid hE7; clear hE7 hg7)
  go_ret
  exact ⟨_, _, rfl, HE7.out.lower hX3, okApp HOK.out HDK.out, by have := HN.out; rw [List.length_append]; simp; omega, HF.out⟩

end Go.Proofs.YtlegeancmcmbaaaDoor

/- What the library's own variable holds. -/
namespace Go.Proofs.YtlegeancmcmbaaaDoor
open Go.RowKit

def Env (w : World) : Prop := ∃ m, w.cell? ⟨1, 0, none⟩ = some (.int .i64 m)
theorem Env.of_shaped {w : World} (h : w.ShapedOpen Tryd.prog) : Env w := Tryd.laysM143.s1_3 w h
theorem Env.below {w w' : World} {B : Nat} (h : Env w) (hb : Below B w w') (hB : w.heap.size ≤ B) : Env w' := by
 obtain ⟨m, hm⟩ := h
 exact ⟨m, (hb.cell (p := ⟨1, 0, none⟩) (Nat.lt_of_lt_of_le (World.block_lt_of_cell? w _ hm) hB)).trans hm⟩

end Go.Proofs.YtlegeancmcmbaaaDoor

/- The names of the kinds of directives, as the program's text lays them; the end of a law whose row lists them. -/
namespace Go.Proofs.YtlegeancmcmbaaaDoor
open Go.ChangeShapes Go.WideShapes Go.ChangeAt Go.RowKit

def kindNm (k : Nat) : ByteArray := ⟨(kindTx k).toArray⟩
def KN (W : World) : Prop := ∀ k, k < 11 → W.cell? ⟨0, k, none⟩ = some (.string (kindNm k))
def KE (W : World) : Prop := Env W ∧ KN W
theorem KN.below {w w' : World} {B : Nat} (h : KN w) (hb : Below B w w') (hB : w.heap.size ≤ B) : KN w' := fun k hk =>
 (hb.cell (p := ⟨0, k, none⟩) (Nat.lt_of_lt_of_le (World.block_lt_of_cell? w _ (h k hk)) hB)).trans (h k hk)
theorem KE.below {w w' : World} {B : Nat} (h : KE w) (hb : Below B w w') (hB : w.heap.size ≤ B) : KE w' := ⟨h.1.below hb hB, h.2.below hb hB⟩

theorem gKinds : Tryd.prog.globalNamed "loop.example/macroprocessor/impl.kindNames" = some 0 := by kernel_rfl
theorem tKinds : (Tryd.prog.globals[0]?).map (·.type) = some 51 := by kernel_rfl
theorem cKinds : Tryd.prog.cellsOf 9 = 1 := by kernel_rfl
theorem laidKinds_eq : (Rows.laid_loop_example_macroprocessor_impl_kindNames : DataW Unit) = .agg ((List.range 11).map fun k => .lit (.string (kindTx k))) := rfl
theorem names_of_laid {W : World} (h : laidMetH Tryd.prog [("loop.example/macroprocessor/impl.kindNames", Rows.laid_loop_example_macroprocessor_impl_kindNames)] W) : KN W := by
 rw [MakeChecks.laidMetH_plain _ _ _ (by kernel_rfl)] at h
 obtain ⟨ps, ⟨g, t, cs, fuel, p, q, hg, ht, hv, hd, -, -⟩, -, -⟩ := h
 obtain rfl := Option.some.inj (gKinds.symm.trans hg)
 obtain rfl := Option.some.inj (tKinds.symm.trans ht)
 rw [laidKinds_eq] at hd
 obtain ⟨xs, m, -, ex, -, hl, hel⟩ := DataW.trod_array Tryd.underlying51 hd
 intro k hk
 have hE := hel k hk
 rw [cKinds, Nat.mul_one, List.getElem?_eq_getElem (by omega)] at hE
 obtain ⟨z, e1, e2, -⟩ := DataW.trod_string Tryd.underlying9 hE
 have e3 : (List.range 11).map (fun k => (DataW.lit (.string (kindTx k)) : DataW Unit)) = xs.map (·.1) := DataW.agg.inj (Prod.mk.inj ex).1
 have e4 : ((List.range 11).map (fun k => (DataW.lit (.string (kindTx k)) : DataW Unit)))[k]? = (xs.map (·.1))[k]? := by rw [e3]
 rw [List.getElem?_map, List.getElem?_map, List.getElem?_range hk, List.getElem?_eq_getElem (by omega : k < xs.length), e2] at e4
 have hz : kindTx k = z.data.toList := by
  simpa only [Option.map_some, Option.some.injEq, DataW.lit.injEq, Lit.string.injEq] using e4
 have hz2 : z = kindNm k := by
  unfold kindNm
  rw [hz]
 rw [World.var?_cell hg hv k, ← hz2]
 have : cs.toList[k]? = some (.string z) := by
  have h0 : ((cs.toList.drop k).take 1)[0]? = some (.string z) := by rw [e1]; rfl
  simpa using h0
 simpa using this

theorem returnsIn_laid {H : Type} {enc : TypeId × Value → H} {a : Assume} {C : Checked} {os : Os} {f : FuncId} {fn : Func} {s : ChangeSpec} {conds : List PathCond} {apart fresh handsOn again : Bool} {X : World → Array Value → Prop}
  (hX : ∀ (w w' : World) (args : Array Value), w.heap = w'.heap → X w args → X w' args)
  (own : ownKnob C.prog.godebug = none) (started : os.Started) (noInit : C.prog.inits.idxOf? f = none) (hfn : C.prog.funcs[f]? = some fn)
  (witness : ∃ (w : World) (tape : Tape) (i : Input), w.os = os ∧ (w.forCall tape i).Shaped C.prog ∧ i.vars = [] ∧ Input.okWide C.prog (w.forCall tape i) .any w.heap.size f i ∧
   ((s.pre enc C.prog fn conds apart (w.forCall tape i).memory i.args ∧ X (w.forCall tape i).memory i.args) ∧ sizedMet enc C.prog fn (OpenSpec.ofChange s) apart (w.forCall tape i).memory i.args) ∧ a.holds C.prog (lone (Frame.enter C.prog f i.args .normal) [] (w.forCall tape i)))
  (contract : ∀ (W : World) (base : Nat) (args : Array Value) (ds gs : List (DataW H)) (before : List MemPlace),
   (∀ (j : Nat) t v, fn.params[j]? = some t → args[j]? = some v → Value.okWide C.prog W .any base t v) →
   DataW.Whole enc C.prog fn.params.toList s.vars apart W args.toList ds gs before → W.ShapedOpen C.prog → X W args →
   Calls C.prog f args W fun e W' => ∃ v, e = .returned v ∧ s.post enc C.prog fn apart fresh handsOn again W args v W') :
  ReturnsInHanded a C os f .any (fun w args => (s.pre enc C.prog fn conds apart w args ∧ X w args) ∧ sizedMet enc C.prog fn (OpenSpec.ofChange s) apart w args) (s.post enc C.prog fn apart fresh handsOn again) := by
 refine returnsInHanded_of_calls own started noInit witness fun w tape i _ hs _ hk hp _ => ?_
 obtain ⟨-, -, -, fn', h1, -, -, -, -, hv⟩ := hk
 obtain rfl : fn' = fn := Option.some.inj (h1.symm.trans hfn)
 obtain ⟨⟨⟨ds, gs, before, h2, -⟩, h3⟩, -⟩ := hp
 refine (contract (w.forCall tape i) w.heap.size i.args ds gs before hv (DataW.Whole.of_heap (w' := w.forCall tape i) (by rfl) h2) hs (hX _ _ _ (by rfl) h3)).mono fun e W' ⟨v, he, hq⟩ => ?_
 subst he
 exact ChangeSpec.post_blind hq

theorem law_vars {H : Type} {enc : TypeId × Value → H} {P : Program} {f : Func} {s : ChangeSpec} {W W' : World} {args : Array Value} {ds gs : List (DataW H)} {before : List MemPlace} {tb : TypeId}
  (hl : laidOutB P = true) (hread : ∀ t ∈ f.params.toList, P.readableRec t = true ∧ t < P.types.size) (hsv : varsRowed P s.vars = true) (hfr : f.resultTypes = #[tb]) (htb : P.underlying tb = some .bool)
  (hW : DataW.Whole enc P f.params.toList s.vars false W args.toList ds gs before)
  (hr : (s.fn H (ds ++ gs)).results = [.lit (.bool true)]) (ha : (s.fn H (ds ++ gs)).args = ds) (hv : (s.fn H (ds ++ gs)).vars = gs)
  (hB : Below W.heap.size W W') : s.post enc P f false true false false W args (.bool true) W' := by
 have hW0 := hW
 obtain ⟨p, q, hA, hV, rfl, hfz, hnd⟩ := hW
 refine ⟨ds, gs, p ++ q, [], p, q, hW0, ?_, ?_, ?_, hB.frame _, by simp⟩
 ·rw [hr, hfr]
  exact ⟨[], [], ⟨1, by simp [DataW.trod, Value.cells, htb]⟩, rfl, rfl⟩
 ·rw [ha]; exact trodAll_below hl hB hread hA
 ·rw [hv]; exact Below.trodVars hl hB hsv hV

end Go.Proofs.YtlegeancmcmbaaaDoor
