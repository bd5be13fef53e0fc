/- Texts that the proof of U stands on, in one file. -/
import Derived.Test.YtghikfggcnabeaaZU2
import Derived.Test.YtghikfggcnabeaaZU1
import Derived.Test.YtghikfggcnabeaaZU4
import Derived.Test.YtghikfggcnabeaaZU5
import Derived.Deep.RegionHeld3
import Derived.Deep.QuietTactic
import Derived.BigQuiet
import Derived.Outline
import Derived.StillTailTactics
import Derived.Deep.Fields
import Derived.ChangeSame
import Derived.IntWalk
import Derived.Laws.BitsAllLaws
set_option linter.unusedVariables false
set_option linter.unusedSimpArgs false
/- Macro: its shape, and the law's own helpers. (Made by rec.py.) -/
namespace Go.Proofs.Ytghikfggcnabeaa
open Go.RowKit Go.ChangeShapes Go.WideShapes Go.Deep
section
variable {H : Type} {enc : TypeId × Value → H} {P : Program} {w : World} {base : Nat} {spare : Nat → Bool} {held : Bool}
end
section
variable {H : Type} {enc : TypeId × Value → H} {w : World} {base : Nat} {spare : Nat → Bool} {held : Bool}
end
end Go.Proofs.Ytghikfggcnabeaa

/- Whether two tokens need a space between them: the program and its model. -/
namespace Go.Proofs.Ytghikfggcnabeaa
open Go.RowKit

def begins (x y : UInt8) : Bool := decide (x.toNat = 47) && (decide (y.toNat = 47) || decide (y.toNat = 42))
end Go.Proofs.Ytghikfggcnabeaa

/- Whether two texts are read otherwise together: the model. -/
namespace Go.Proofs.Ytghikfggcnabeaa
open Go.RowKit
end Go.Proofs.Ytghikfggcnabeaa

/- PrintTokens: the model. -/
namespace Go.Proofs.Ytghikfggcnabeaa
open Go.RowKit
end Go.Proofs.Ytghikfggcnabeaa

/- Macros: the model's own helpers; what both sides walk over. -/
namespace Go.Proofs.Ytghikfggcnabeaa
open Go.RowKit
end Go.Proofs.Ytghikfggcnabeaa

/- The text of a macro is read as the macro again: no program. -/
namespace Go.Proofs.Ytghikfggcnabeaa
open Go.RowKit

/-! ### Tokens that need no space between them -/
def markT (c : UInt8) : Tok := ⟨4, ⟨#[c]⟩, false, []⟩
def nameT (s : ByteArray) : Tok := ⟨1, s, false, []⟩
/-! ### Printing token by token -/
/-! ### The tokens of a macro's text -/
def hL (m : DMacro) : Nat → List Tok
 | 0 => [nameT m.name, markT 40]
 | k + 1 => (if 0 < k then hL m k ++ [markT 44] else hL m k) ++ [nameT (if h : k < m.params.length then m.params[k] else ⟨#[]⟩)]
/-! ### Reading it -/
/-! ### What the other promises ask -/
end Go.Proofs.Ytghikfggcnabeaa

/- Valid macros, part by part, as both sides ask for them: no program. -/
namespace Go.Proofs.Ytghikfggcnabeaa
open Go.RowKit
/-! ### Parameters -/
/-! ### The body -/
/-! ### Macros of the model -/
/-! ### Macros of the program -/
end Go.Proofs.Ytghikfggcnabeaa

/- The drawing of inputs: the reader. -/
namespace Go.Proofs.Ytghikfggcnabeaa
open Go.RowKit

structure Rd (w : World) (rb : Nat) (p : Nat) : Prop where
 mk ::
 ex : ∃ (a : Option Addr) (l : List UInt8) (cap : Nat) (fp : List Nat), w.heap[rb]? = some (.cells #[.slice a l.length cap, .int .i64 p] 55 (0, 0)) ∧ (sSlice sByte).R w [.slice a l.length cap] l fp ∧ Under rb fp ∧ l.length ≤ 2000
 hp : p ≤ 1000000

theorem Rd.step {w : World} {rb p : Nat} (H : Rd w rb p) (hp : p < 1000000) : Rd (w.setCell ⟨rb, 1, none⟩ (.int .i64 ((p : Int) + 1))) rb (p + 1) ∧ Kept [rb] w (w.setCell ⟨rb, 1, none⟩ (.int .i64 ((p : Int) + 1))) := by
 obtain ⟨⟨a, l, cap, fp, hb, hr, hu, hl⟩, hp'⟩ := H
 have hk : Kept [rb] w (w.setCell ⟨rb, 1, none⟩ (.int .i64 ((p : Int) + 1))) := (Kept.refl _ _).setCell (by simp) _
 refine ⟨⟨⟨a, l, cap, fp, ?_, (sSlice sByte).kept hr (fun b hb' => by have := hu b hb'; simp; omega) hk, hu, hl⟩, by omega⟩, hk⟩
 simp [World.setCell, Array.getElem?_modify, hb]

def Picked (rb p : Nat) (n : Int) (w : World) (e : Ending) (w' : World) : Prop :=
 ∃ r : Int, e = .returned (.int .i64 r) ∧ 0 ≤ r ∧ (r < n ∨ n < 1 ∧ r = 0) ∧ Rd w' rb (p + 1) ∧ Kept [rb] w w'

theorem Picked.of {rb p : Nat} {n r : Int} {w : World} (H : Rd w rb p) (hp : p < 1000000) (h0 : 0 ≤ r) (h1 : r < n ∨ n < 1 ∧ r = 0) (m : Nat) :
  Picked rb p n w (.returned (.int .i64 r)) ((w.setCell ⟨rb, 1, none⟩ (.int .i64 ((p : Int) + 1))).drewN m) :=
 ⟨r, rfl, h0, h1, ⟨(H.step hp).1.ex, (H.step hp).1.hp⟩, (H.step hp).2.drewN m⟩

theorem xor_i64_nonneg (a b : Nat) (ha : a < 4611686018427387904) (hb : b < 4611686018427387904) : 0 ≤ bits .xor .i64 (a : Int) (b : Int) := by
 have hx : a ^^^ b < 2 ^ 62 := Nat.xor_lt_two_pow (by omega) (by omega)
 have h1 : (BitVec.ofInt 64 (a : Int)).toNat = a := by
  rw [BitVec.ofInt_natCast, BitVec.toNat_ofNat]; exact Nat.mod_eq_of_lt (by omega)
 have h2 : (BitVec.ofInt 64 (b : Int)).toNat = b := by
  rw [BitVec.ofInt_natCast, BitVec.toNat_ofNat]; exact Nat.mod_eq_of_lt (by omega)
 show 0 ≤ IntKind.i64.wrap ((BitVec.ofInt 64 (a : Int) ^^^ BitVec.ofInt 64 (b : Int)).toNat : Int)
 rw [BitVec.toNat_xor, h1, h2, IntWalk.i64_in _ (by omega)]
 omega
theorem xor_pick {X : Int} (h : 0 ≤ X ∧ X ≤ 1000000000) : 0 ≤ bits .xor .i64 X (X / 64) := by
 obtain ⟨x, rfl⟩ := Int.eq_ofNat_of_zero_le h.1
 have := xor_i64_nonneg x (x / 64) (by omega) (by omega)
 simpa using this
theorem wrap_byte (b : UInt8) : 0 ≤ wrap64 (b.toNat : Int) ∧ wrap64 (b.toNat : Int) ≤ 255 := by
 have := b.toNat_lt
 rw [show wrap64 (b.toNat : Int) = (b.toNat : Int) from by unfold wrap64; omega]
 omega
theorem rem_pick {x n : Int} (h : 0 ≤ x) (hn : 1 ≤ n) : 0 ≤ x.tmod n ∧ x.tmod n < n := by
 rw [Int.tmod_eq_emod_of_nonneg h]
 exact ⟨Int.emod_nonneg _ (by omega), Int.emod_lt_of_pos _ (by omega)⟩

set_option maxHeartbeats 2000000 in
theorem pick (rb p : Nat) (n : Int) (w : World) (H : Rd w rb p) (hp : p < 1000000) (hn : n ≤ 1000000) (hn0 : -1000000 ≤ n) :
  Calls Try.prog 23 #[.pointer (some ⟨rb, 0, none⟩), .int .i64 n] w (Picked rb p n w) := by
 have HP := fun (r : Int) h0 h1 m => Picked.of (n := n) (r := r) H hp h0 h1 m
 have HH := Lib.hid HP; clear HP
 obtain ⟨⟨a, l, cap, fp, hb, hr, hu, hl⟩, _⟩ := H
 have h0 : w.cell? ⟨rb, 0, none⟩ = some (.slice a l.length cap) := by simp [World.cell?, hb]
 have h1 : w.cell? ⟨rb, 1, none⟩ = some (.int .i64 p) := by simp [World.cell?, hb]
 have hf : w.frozen? ⟨rb, 1, none⟩ = false := by simp [World.frozen?, hb]
 clear hb
 obtain ⟨_, _, hv, _, _, hcell, _⟩ := open_flat hr
 simp only [Value.slice.injEq] at hv
 obtain ⟨rfl, _, rfl⟩ := hv
 clear hr
 by_cases hn1 : n < 1
 ·go_enter Try.func23, Try.ntmps23
  go_wp2
  go_ret
  exact HH.out 0 (by omega) (.inr ⟨hn1, rfl⟩) 0
 by_cases hl0 : l.length = 0
 ·have hl1 : ((l.length : Int) == 0) = true := by simp [hl0]
  go_enter Try.func23, Try.ntmps23
  go_wp2
  go_ret
  exact HH.out 0 (by omega) (.inl (by omega)) 0
 obtain ⟨b, off, rfl, hbw, hbf, hc⟩ := hcell (by omega)
 clear hcell
 have hlt := hu b hbf
 have hne : ¬ rb = b := by omega
 have hl1 : ((l.length : Int) == 0) = false := beq_eq_false_iff_ne.2 (by omega)
 by_cases hk : p < l.length
 ·have hcp := hc p hk
  simp only [encByte] at hcp
  have HZ := Lib.hid (rem_pick (wrap_byte l[p]).1 (show 1 ≤ n by omega))
  clear hc
  go_enter Try.func23, Try.ntmps23
  go_wp2
  go_ret
  exact HH.out _ HZ.out.1 (.inl HZ.out.2) 0
 ·obtain ⟨i1, hi1⟩ : ∃ i, i = p % l.length := ⟨_, rfl⟩
  obtain ⟨m3, hm3⟩ : ∃ m, m = p * 7 + 3 := ⟨_, rfl⟩
  obtain ⟨i2, hi2⟩ : ∃ i, i = m3 % l.length := ⟨_, rfl⟩
  obtain ⟨q1, hq1⟩ : ∃ q, q = p / l.length := ⟨_, rfl⟩
  have hi1l : i1 < l.length := by rw [hi1]; exact Nat.mod_lt _ (by omega)
  have hi2l : i2 < l.length := by rw [hi2]; exact Nat.mod_lt _ (by omega)
  have hq1l : q1 ≤ p := by rw [hq1]; exact Nat.div_le_self _ _
  obtain ⟨c1, hd1, hd2, hc1⟩ : ∃ c : Int, 0 ≤ c ∧ c ≤ 255 ∧ w.cell? ⟨b, off + i1, none⟩ = some (.int .u8 c) := ⟨_, by omega, by have := l[i1].toNat_lt; omega, hc i1 hi1l⟩
  obtain ⟨c2, hd3, hd4, hc2⟩ : ∃ c : Int, 0 ≤ c ∧ c ≤ 255 ∧ w.cell? ⟨b, off + i2, none⟩ = some (.int .u8 c) := ⟨_, by omega, by have := l[i2].toNat_lt; omega, hc i2 hi2l⟩
  have e1 : IntKind.i64.wrap ((p : Int).tmod (l.length : Int)) = (i1 : Int) := by
   rw [Int.tmod_eq_emod_of_nonneg (by omega), ← Int.natCast_emod, ← hi1]; exact IntWalk.i64_in _ (by omega)
  have e3 : IntKind.i64.wrap ((p : Int) * 7) = (p : Int) * 7 := IntWalk.i64_in _ (by omega)
  have e4 : IntKind.i64.wrap ((p : Int) * 7 + 3) = (m3 : Int) := by rw [IntWalk.i64_in _ (by omega)]; omega
  have e5 : IntKind.i64.wrap ((m3 : Int).tmod (l.length : Int)) = (i2 : Int) := by
   rw [Int.tmod_eq_emod_of_nonneg (by omega), ← Int.natCast_emod, ← hi2]; exact IntWalk.i64_in _ (by omega)
  have e6 : IntKind.i64.wrap c1 = c1 := IntWalk.i64_in _ (by omega)
  have e7 : IntKind.i64.wrap c2 = c2 := IntWalk.i64_in _ (by omega)
  have e8 : IntKind.i64.wrap (c1 * 131) = c1 * 131 := IntWalk.i64_in _ (by omega)
  have e9 : IntKind.i64.wrap (c2 * 1117) = c2 * 1117 := IntWalk.i64_in _ (by omega)
  have e10 : IntKind.i64.wrap (c1 * 131 + c2 * 1117) = c1 * 131 + c2 * 1117 := IntWalk.i64_in _ (by omega)
  have e11 : IntKind.i64.wrap ((p : Int) * 29) = (p : Int) * 29 := IntWalk.i64_in _ (by omega)
  have e12 : IntKind.i64.wrap (c1 * 131 + c2 * 1117 + (p : Int) * 29) = c1 * 131 + c2 * 1117 + (p : Int) * 29 := IntWalk.i64_in _ (by omega)
  have e13 : IntKind.i64.wrap ((p : Int).tdiv (l.length : Int)) = (q1 : Int) := by
   rw [Int.tdiv_eq_ediv_of_nonneg (by omega), ← Int.natCast_ediv, ← hq1]; exact IntWalk.i64_in _ (by omega)
  have e14 : IntKind.i64.wrap ((q1 : Int) * 53) = (q1 : Int) * 53 := IntWalk.i64_in _ (by omega)
  obtain ⟨X, hX⟩ : ∃ X : Int, X = c1 * 131 + c2 * 1117 + (p : Int) * 29 + (q1 : Int) * 53 := ⟨_, rfl⟩
  have hX0 : 0 ≤ X ∧ X ≤ 1000000000 := by omega
  have e15 : IntKind.i64.wrap (c1 * 131 + c2 * 1117 + (p : Int) * 29 + (q1 : Int) * 53) = X := by rw [← hX]; exact IntWalk.i64_in _ (by omega)
  have f1 : (p : Int) % (l.length : Int) = (i1 : Int) := by rw [hi1, Int.natCast_emod]
  have f2 : ((p : Int) * 7 + 3) % (l.length : Int) = (i2 : Int) := by rw [hi2, hm3, Int.natCast_emod]; rfl
  have f3 : (m3 : Int) % (l.length : Int) = (i2 : Int) := by rw [hi2, Int.natCast_emod]
  have f4 : (p : Int) / (l.length : Int) = (q1 : Int) := by rw [hq1, Int.natCast_ediv]
  have f5 := hX.symm
  have HX := Lib.hid hX0
  clear hX0 hX hi1 hm3 hi2 hq1 hc
  go_enter Try.func23, Try.ntmps23
  go_wp2
  go_quiet (fail)
  clear f1 f2 f3 f4 f5 e1 e3 e4 e5 e6 e7 e8 e9 e10 e11 e12 e13 e14 e15
  have hX0 := HX.out
  go_wp2
  go_ret
  have hr := rem_pick (xor_pick HX.out) (show 1 ≤ n by omega)
  exact HH.out _ hr.1 (.inl hr.2) _

def Odd (rb p : Nat) (w : World) (e : Ending) (w' : World) : Prop := ∃ b : Bool, ∃ q : Nat, e = .returned (.bool b) ∧ p ≤ q ∧ q ≤ p + 1 ∧ Rd w' rb q ∧ Kept [rb] w w'

set_option maxHeartbeats 1000000 in
theorem odd (rb p : Nat) (n : Int) (w : World) (H : Rd w rb p) (hp : p < 1000000) (hn : n ≤ 1000000) (hn0 : 0 ≤ n) :
  Calls Try.prog 30 #[.pointer (some ⟨rb, 0, none⟩), .int .i64 n] w (Odd rb p w) := by
 by_cases h0 : 0 < n
 ·go_enter Try.func30, Try.ntmps30
  go_wp2_with (go_at_call 23; refine (pick _ _ _ _ H hp hn (by omega)).mono ?_; rintro e w' ⟨r, rfl, hr0, hr1, hr2, hr3⟩)
  go_ret
  exact ⟨_, p + 1, rfl, by omega, by omega, hr2, hr3⟩
 ·have e0 : n = 0 := by omega
  subst e0
  go_enter Try.func30, Try.ntmps30
  go_wp2
  go_ret
  exact ⟨_, p, rfl, by omega, by omega, H, Kept.refl _ _⟩

end Go.Proofs.Ytghikfggcnabeaa
