/- Texts that the proof of P stands on, in one file. -/
import Derived.Test.YtlegeancmcmbaaaDoorZP1
import Derived.Deep.RegionHeld3
import Derived.Outline
import Derived.IntWalk
import Derived.Laws.BitsAllLaws
import Derived.Deep.QuietTactic
import Derived.BigQuiet
import Derived.Deep.Slices
import Derived.Laws.Concat
set_option linter.unusedVariables false
set_option linter.unusedSimpArgs false
/- Marks in slices of texts and of numbers. -/
namespace Go.Proofs.YtlegeancmcmbaaaDoor
open Go.RowKit
def marks {α : Type} (f : Int → α) (k : Int) (n : Nat) : List α := (List.range n).map fun (i : Nat) => f (k + (i : Int))
end Go.Proofs.YtlegeancmcmbaaaDoor

/- Objects of a law while it runs: what they read as, and between which blocks they lie. -/
namespace Go.Proofs.YtlegeancmcmbaaaDoor
open Go.RowKit

structure Seen {α : Type} (S : Shape α) (w : World) (cs : List Value) (d : α) (fp : List Nat) (hi : Nat) : Prop where
 r : S.R w cs d fp
 hi : Under hi fp
structure Live {α : Type} (S : Shape α) (w : World) (cs : List Value) (d : α) (fp : List Nat) (lo hi : Nat) : Prop where
 r : S.R w cs d fp
 o : Own w lo fp
 hi : Under hi fp

section
variable {α : Type} {S : Shape α} {w w' : World} {cs : List Value} {d : α} {fp fp' : List Nat} {lo hi lo' : Nat}
theorem Seen.of (h : S.R w cs d fp) : Seen S w cs d fp w.heap.size := ⟨h, S.lt h⟩
theorem Seen.below (h : Seen S w cs d fp hi) (hb : Below w.heap.size w w') : Seen S w' cs d fp hi := ⟨S.below h.r hb, h.hi⟩
theorem Live.of (h : S.R w cs d fp) (o : Own w lo fp) : Live S w cs d fp lo w.heap.size := ⟨h, o, o.lt⟩
theorem Live.below (h : Live S w cs d fp lo hi) (hb : Below w.heap.size w w') : Live S w' cs d fp lo hi := ⟨S.below h.r hb, h.o.grow hb, h.hi⟩
theorem Seen.kept (h : Seen S w cs d fp hi) (hk : Kept fp' w w') (ho : Own w lo' fp') (hle : hi ≤ lo') : Seen S w' cs d fp hi :=
 ⟨S.kept h.r (fun b hb hx => by have h1 := h.hi b hb; have h2 := (ho.2 b hx).1; omega) hk, h.hi⟩
theorem Live.kept (h : Live S w cs d fp lo hi) (hk : Kept fp' w w') (ho : Own w lo' fp') (hle : hi ≤ lo') : Live S w' cs d fp lo hi :=
 have hd : ∀ b ∈ fp, b ∉ fp' := fun b hb hx => by have h1 := h.hi b hb; have h2 := (ho.2 b hx).1; omega
 ⟨S.kept h.r hd hk, h.o.kept hd hk, h.hi⟩
end

def Apart (fp fp' : List Nat) : Prop := ∀ b ∈ fp, b ∉ fp'
theorem Apart.symm {fp fp' : List Nat} (h : Apart fp fp') : Apart fp' fp := fun b h1 h2 => h b h2 h1
end Go.Proofs.YtlegeancmcmbaaaDoor

/- The drawing of inputs: the reader. -/
namespace Go.Proofs.YtlegeancmcmbaaaDoor
open Go.RowKit

structure Rd (w : World) (rb : Nat) (p : Nat) : Prop where
 mk ::
 ex : ∃ (a : Option Addr) (l : List UInt8) (cap : Nat) (fp : List Nat), w.heap[rb]? = some (.cells #[.slice a l.length cap, .int .i64 p] 71 (0, 0)) ∧ (sSlice sByte).R w [.slice a l.length cap] l fp ∧ Under rb fp ∧ l.length ≤ 2000
 hp : p ≤ 1000000

theorem Rd.step {w : World} {rb p : Nat} (H : Rd w rb p) (hp : p < 1000000) : Rd (w.setCell ⟨rb, 1, none⟩ (.int .i64 ((p : Int) + 1))) rb (p + 1) ∧ Kept [rb] w (w.setCell ⟨rb, 1, none⟩ (.int .i64 ((p : Int) + 1))) := by
 obtain ⟨⟨a, l, cap, fp, hb, hr, hu, hl⟩, hp'⟩ := H
 have hk : Kept [rb] w (w.setCell ⟨rb, 1, none⟩ (.int .i64 ((p : Int) + 1))) := (Kept.refl _ _).setCell (by simp) _
 refine ⟨⟨⟨a, l, cap, fp, ?_, (sSlice sByte).kept hr (fun b hb' => by have := hu b hb'; simp; omega) hk, hu, hl⟩, by omega⟩, hk⟩
 simp [World.setCell, Array.getElem?_modify, hb]

def Picked (rb p : Nat) (n : Int) (w : World) (e : Ending) (w' : World) : Prop :=
 ∃ r : Int, e = .returned (.int .i64 r) ∧ 0 ≤ r ∧ (r < n ∨ n < 1 ∧ r = 0) ∧ Rd w' rb (p + 1) ∧ Kept [rb] w w'

theorem Picked.of {rb p : Nat} {n r : Int} {w : World} (H : Rd w rb p) (hp : p < 1000000) (h0 : 0 ≤ r) (h1 : r < n ∨ n < 1 ∧ r = 0) (m : Nat) :
  Picked rb p n w (.returned (.int .i64 r)) ((w.setCell ⟨rb, 1, none⟩ (.int .i64 ((p : Int) + 1))).drewN m) :=
 ⟨r, rfl, h0, h1, ⟨(H.step hp).1.ex, (H.step hp).1.hp⟩, (H.step hp).2.drewN m⟩

theorem xor_i64_nonneg (a b : Nat) (ha : a < 4611686018427387904) (hb : b < 4611686018427387904) : 0 ≤ bits .xor .i64 (a : Int) (b : Int) := by
 have hx : a ^^^ b < 2 ^ 62 := Nat.xor_lt_two_pow (by omega) (by omega)
 have h1 : (BitVec.ofInt 64 (a : Int)).toNat = a := by
  rw [BitVec.ofInt_natCast, BitVec.toNat_ofNat]; exact Nat.mod_eq_of_lt (by omega)
 have h2 : (BitVec.ofInt 64 (b : Int)).toNat = b := by
  rw [BitVec.ofInt_natCast, BitVec.toNat_ofNat]; exact Nat.mod_eq_of_lt (by omega)
 show 0 ≤ IntKind.i64.wrap ((BitVec.ofInt 64 (a : Int) ^^^ BitVec.ofInt 64 (b : Int)).toNat : Int)
 rw [BitVec.toNat_xor, h1, h2, IntWalk.i64_in _ (by omega)]
 omega
theorem xor_pick {X : Int} (h : 0 ≤ X ∧ X ≤ 1000000000) : 0 ≤ bits .xor .i64 X (X / 64) := by
 obtain ⟨x, rfl⟩ := Int.eq_ofNat_of_zero_le h.1
 have := xor_i64_nonneg x (x / 64) (by omega) (by omega)
 simpa using this
theorem wrap_byte (b : UInt8) : 0 ≤ wrap64 (b.toNat : Int) ∧ wrap64 (b.toNat : Int) ≤ 255 := by
 have := b.toNat_lt
 rw [show wrap64 (b.toNat : Int) = (b.toNat : Int) from by unfold wrap64; omega]
 omega
theorem rem_pick {x n : Int} (h : 0 ≤ x) (hn : 1 ≤ n) : 0 ≤ x.tmod n ∧ x.tmod n < n := by
 rw [Int.tmod_eq_emod_of_nonneg h]
 exact ⟨Int.emod_nonneg _ (by omega), Int.emod_lt_of_pos _ (by omega)⟩

set_option maxHeartbeats 2000000 in
theorem pick (rb p : Nat) (n : Int) (w : World) (H : Rd w rb p) (hp : p < 1000000) (hn : n ≤ 1000000) (hn0 : -1000000 ≤ n) :
  Calls Tryd.prog 29 #[.pointer (some ⟨rb, 0, none⟩), .int .i64 n] w (Picked rb p n w) := by
 have HP := fun (r : Int) h0 h1 m => Picked.of (n := n) (r := r) H hp h0 h1 m
 have HH := Lib.hid HP; clear HP
 obtain ⟨⟨a, l, cap, fp, hb, hr, hu, hl⟩, _⟩ := H
 have h0 : w.cell? ⟨rb, 0, none⟩ = some (.slice a l.length cap) := by simp [World.cell?, hb]
 have h1 : w.cell? ⟨rb, 1, none⟩ = some (.int .i64 p) := by simp [World.cell?, hb]
 have hf : w.frozen? ⟨rb, 1, none⟩ = false := by simp [World.frozen?, hb]
 clear hb
 obtain ⟨_, _, hv, _, _, hcell, _⟩ := open_flat hr
 simp only [Value.slice.injEq] at hv
 obtain ⟨rfl, _, rfl⟩ := hv
 clear hr
 by_cases hn1 : n < 1
 ·go_enter Tryd.func29, Tryd.ntmps29
  go_wp2
  go_ret
  exact HH.out 0 (by omega) (.inr ⟨hn1, rfl⟩) 0
 by_cases hl0 : l.length = 0
 ·have hl1 : ((l.length : Int) == 0) = true := by simp [hl0]
  go_enter Tryd.func29, Tryd.ntmps29
  go_wp2
  go_ret
  exact HH.out 0 (by omega) (.inl (by omega)) 0
 obtain ⟨b, off, rfl, hbw, hbf, hc⟩ := hcell (by omega)
 clear hcell
 have hlt := hu b hbf
 have hne : ¬ rb = b := by omega
 have hl1 : ((l.length : Int) == 0) = false := beq_eq_false_iff_ne.2 (by omega)
 by_cases hk : p < l.length
 ·have hcp := hc p hk
  simp only [encByte] at hcp
  have HZ := Lib.hid (rem_pick (wrap_byte l[p]).1 (show 1 ≤ n by omega))
  clear hc
  go_enter Tryd.func29, Tryd.ntmps29
  go_wp2
  go_ret
  exact HH.out _ HZ.out.1 (.inl HZ.out.2) 0
 ·obtain ⟨i1, hi1⟩ : ∃ i, i = p % l.length := ⟨_, rfl⟩
  obtain ⟨m3, hm3⟩ : ∃ m, m = p * 7 + 3 := ⟨_, rfl⟩
  obtain ⟨i2, hi2⟩ : ∃ i, i = m3 % l.length := ⟨_, rfl⟩
  obtain ⟨q1, hq1⟩ : ∃ q, q = p / l.length := ⟨_, rfl⟩
  have hi1l : i1 < l.length := by rw [hi1]; exact Nat.mod_lt _ (by omega)
  have hi2l : i2 < l.length := by rw [hi2]; exact Nat.mod_lt _ (by omega)
  have hq1l : q1 ≤ p := by rw [hq1]; exact Nat.div_le_self _ _
  obtain ⟨c1, hd1, hd2, hc1⟩ : ∃ c : Int, 0 ≤ c ∧ c ≤ 255 ∧ w.cell? ⟨b, off + i1, none⟩ = some (.int .u8 c) := ⟨_, by omega, by have := l[i1].toNat_lt; omega, hc i1 hi1l⟩
  obtain ⟨c2, hd3, hd4, hc2⟩ : ∃ c : Int, 0 ≤ c ∧ c ≤ 255 ∧ w.cell? ⟨b, off + i2, none⟩ = some (.int .u8 c) := ⟨_, by omega, by have := l[i2].toNat_lt; omega, hc i2 hi2l⟩
  have e1 : IntKind.i64.wrap ((p : Int).tmod (l.length : Int)) = (i1 : Int) := by
   rw [Int.tmod_eq_emod_of_nonneg (by omega), ← Int.natCast_emod, ← hi1]; exact IntWalk.i64_in _ (by omega)
  have e3 : IntKind.i64.wrap ((p : Int) * 7) = (p : Int) * 7 := IntWalk.i64_in _ (by omega)
  have e4 : IntKind.i64.wrap ((p : Int) * 7 + 3) = (m3 : Int) := by rw [IntWalk.i64_in _ (by omega)]; omega
  have e5 : IntKind.i64.wrap ((m3 : Int).tmod (l.length : Int)) = (i2 : Int) := by
   rw [Int.tmod_eq_emod_of_nonneg (by omega), ← Int.natCast_emod, ← hi2]; exact IntWalk.i64_in _ (by omega)
  have e6 : IntKind.i64.wrap c1 = c1 := IntWalk.i64_in _ (by omega)
  have e7 : IntKind.i64.wrap c2 = c2 := IntWalk.i64_in _ (by omega)
  have e8 : IntKind.i64.wrap (c1 * 131) = c1 * 131 := IntWalk.i64_in _ (by omega)
  have e9 : IntKind.i64.wrap (c2 * 1117) = c2 * 1117 := IntWalk.i64_in _ (by omega)
  have e10 : IntKind.i64.wrap (c1 * 131 + c2 * 1117) = c1 * 131 + c2 * 1117 := IntWalk.i64_in _ (by omega)
  have e11 : IntKind.i64.wrap ((p : Int) * 29) = (p : Int) * 29 := IntWalk.i64_in _ (by omega)
  have e12 : IntKind.i64.wrap (c1 * 131 + c2 * 1117 + (p : Int) * 29) = c1 * 131 + c2 * 1117 + (p : Int) * 29 := IntWalk.i64_in _ (by omega)
  have e13 : IntKind.i64.wrap ((p : Int).tdiv (l.length : Int)) = (q1 : Int) := by
   rw [Int.tdiv_eq_ediv_of_nonneg (by omega), ← Int.natCast_ediv, ← hq1]; exact IntWalk.i64_in _ (by omega)
  have e14 : IntKind.i64.wrap ((q1 : Int) * 53) = (q1 : Int) * 53 := IntWalk.i64_in _ (by omega)
  obtain ⟨X, hX⟩ : ∃ X : Int, X = c1 * 131 + c2 * 1117 + (p : Int) * 29 + (q1 : Int) * 53 := ⟨_, rfl⟩
  have hX0 : 0 ≤ X ∧ X ≤ 1000000000 := by omega
  have e15 : IntKind.i64.wrap (c1 * 131 + c2 * 1117 + (p : Int) * 29 + (q1 : Int) * 53) = X := by rw [← hX]; exact IntWalk.i64_in _ (by omega)
  have f1 : (p : Int) % (l.length : Int) = (i1 : Int) := by rw [hi1, Int.natCast_emod]
  have f2 : ((p : Int) * 7 + 3) % (l.length : Int) = (i2 : Int) := by rw [hi2, hm3, Int.natCast_emod]; rfl
  have f3 : (m3 : Int) % (l.length : Int) = (i2 : Int) := by rw [hi2, Int.natCast_emod]
  have f4 : (p : Int) / (l.length : Int) = (q1 : Int) := by rw [hq1, Int.natCast_ediv]
  have f5 := hX.symm
  have HX := Lib.hid hX0
  clear hX0 hX hi1 hm3 hi2 hq1 hc
  go_enter Tryd.func29, Tryd.ntmps29
  go_wp2
  go_quiet (fail)
  clear f1 f2 f3 f4 f5 e1 e3 e4 e5 e6 e7 e8 e9 e10 e11 e12 e13 e14 e15
  have hX0 := HX.out
  go_wp2
  go_ret
  have hr := rem_pick (xor_pick HX.out) (show 1 ≤ n by omega)
  exact HH.out _ hr.1 (.inl hr.2) _

def Odd (rb p : Nat) (w : World) (e : Ending) (w' : World) : Prop := ∃ b : Bool, ∃ q : Nat, e = .returned (.bool b) ∧ p ≤ q ∧ q ≤ p + 1 ∧ Rd w' rb q ∧ Kept [rb] w w'

set_option maxHeartbeats 1000000 in
theorem odd (rb p : Nat) (n : Int) (w : World) (H : Rd w rb p) (hp : p < 1000000) (hn : n ≤ 1000000) (hn0 : 0 ≤ n) :
  Calls Tryd.prog 33 #[.pointer (some ⟨rb, 0, none⟩), .int .i64 n] w (Odd rb p w) := by
 by_cases h0 : 0 < n
 ·go_enter Tryd.func33, Tryd.ntmps33
  go_wp2_with (go_at_call 29; refine (pick _ _ _ _ H hp hn (by omega)).mono ?_; rintro e w' ⟨r, rfl, hr0, hr1, hr2, hr3⟩)
  go_ret
  exact ⟨_, p + 1, rfl, by omega, by omega, hr2, hr3⟩
 ·have e0 : n = 0 := by omega
  subst e0
  go_enter Tryd.func33, Tryd.ntmps33
  go_wp2
  go_ret
  exact ⟨_, p, rfl, by omega, by omega, H, Kept.refl _ _⟩

end Go.Proofs.YtlegeancmcmbaaaDoor

/- Arguments, opened: what can be read as data of a type reads as our shape. -/
namespace Go.Proofs.YtlegeancmcmbaaaDoor
open Go.ChangeShapes Go.WideShapes Go.RowKit

section
variable {H : Type} {enc : TypeId × Value → H} {P : Program} {w : World} {base : Nat} {spare : Nat → Bool} {held : Bool}

def Opens (enc : TypeId × Value → H) (P : Program) (w : World) (base : Nat) (spare : Nat → Bool) (held : Bool) (t : TypeId) {α : Type} (S : Shape α) : Prop :=
 ∀ fuel cs x, DataW.trod enc P w base spare held fuel t cs = some x → ∃ d fp, S.R w cs d fp

theorem opens_byte {t : TypeId} (ht : P.underlying t = some (.int .u8)) : Opens enc P w base spare held t sByte := by
 intro fuel cs x h
 obtain ⟨n, rfl, _, hw⟩ := DataW.trod_int ht h
 have : 0 ≤ n ∧ n ≤ 255 := by simpa [Lit.wf, IntKind.min, IntKind.max, IntKind.signed, IntKind.bits] using hw
 refine ⟨UInt8.ofNat n.toNat, [], ?_, trivial, rfl⟩
 show [Value.int .u8 n] = [Value.int .u8 ((UInt8.ofNat n.toNat).toNat : Int)]
 rw [UInt8.toNat_ofNat_of_lt' (by simp [UInt8.size]; omega)]
 congr 2; omega

theorem addr_add (b off n : Nat) : Addr.add ⟨b, off, none⟩ n = ⟨b, off + n, none⟩ := by
 unfold Addr.add; split
 ·rename_i h; subst h; rfl
 ·rfl

theorem opens_slice {t e : TypeId} {α : Type} {S : Shape α} (ht : P.underlying t = some (.slice e)) (hm : P.cellsOf e = S.m) (h0 : 0 < S.m) (he : Opens enc P w base spare held e S) : Opens enc P w base spare held t (sSlice S) := by
 intro fuel cs x h
 rcases DataW.trod_slice ht h with ⟨rfl, _⟩ | ⟨a, len, cap, elems, rest, n, _, rfl, _, hb, hl, hc, hlen, hel, _, _⟩
 ·exact ⟨[], [], none, 0, rfl, by simp, by simp, .inl ⟨rfl, rfl⟩⟩
 ·have each : ∀ i, i < len → ∃ es d fp, (es.length = S.m ∧ ∀ j, j < S.m → w.cell? (a.add (i * S.m + j)) = es[j]?) ∧ S.R w es d fp := by
   intro i hi
   have h1 := hel i hi
   rw [List.getElem?_eq_getElem (by omega), Option.bind_eq_some_iff] at h1
   obtain ⟨es, h2, h3⟩ := h1
   rw [hm] at h2
   obtain ⟨_, h4, h5⟩ := World.cells?_some h2
   obtain ⟨d, fp, h6⟩ := he _ _ _ h3
   refine ⟨es, d, fp, ⟨h4, fun j hj => ?_⟩, h6⟩
   rw [← h5 j hj, Go.Deep.add_add]
  by_cases hz : len = 0
  ·subst hz
   exact ⟨[], [], some a, cap, rfl, hl, hc, .inl ⟨rfl, rfl⟩⟩
  ·have hsp : a.spot = none := by
    obtain ⟨es, d, fp, ⟨h1, h2⟩, _⟩ := each 0 (by omega)
    have h3 := h2 0 h0
    rw [List.getElem?_eq_getElem (by omega)] at h3
    have e0 : a.add (0 * S.m + 0) = a := by simp [Addr.add]
    rw [e0] at h3
    unfold World.cell? at h3
    split at h3
    ·split at h3
     ·simp at h3
     ·rename_i hh; simpa using hh
    ·simp at h3
   obtain ⟨b, off, sp⟩ := a
   simp at hsp
   subst hsp
   have hblk : b < w.heap.size := by
    obtain ⟨es, d, fp, ⟨h1, h2⟩, _⟩ := each 0 (by omega)
    have h3 := h2 0 h0
    rw [List.getElem?_eq_getElem (by omega), addr_add] at h3
    exact World.block_lt_of_cell? w _ h3
   have hch : ∀ i : Nat, ∃ y : α × List Nat, i < len → ∃ es, ElemAt w b off S.m i es ∧ S.R w es y.1 y.2 := by
    intro i
    by_cases hi : i < len
    ·obtain ⟨es, d, fp, ⟨h1, h2⟩, h3⟩ := each i hi
     refine ⟨(d, fp), fun _ => ⟨es, ⟨h1, fun j hj => ?_⟩, h3⟩⟩
     rw [← h2 j hj, addr_add, Nat.add_assoc]
    ·obtain ⟨es, d, fp, _, _⟩ := each 0 (by omega)
     exact ⟨(d, fp), fun h => absurd h hi⟩
   let Y := fun i => Classical.choose (hch i)
   have hY : ∀ i, i < len → ∃ es, ElemAt w b off S.m i es ∧ S.R w es (Y i).1 (Y i).2 := fun i hi => Classical.choose_spec (hch i) hi
   have hL : ((List.range len).map fun i => (Y i).1).length = len := by simp
   refine ⟨(List.range len).map fun i => (Y i).1, b :: (List.range len).flatMap fun i => (Y i).2, some ⟨b, off, none⟩, cap, by rw [hL], by rw [hL]; exact hl, hc, .inr ⟨by rw [hL]; omega, b, off, fun i => (Y i).2, rfl, by rw [hL], hblk, fun i hi => ?_⟩⟩
   rw [hL] at hi
   obtain ⟨es, h1, h2⟩ := hY i hi
   exact ⟨es, h1, by simpa using h2⟩

theorem open_arg {t : TypeId} {α : Type} {S : Shape α} {v : Value} {d : DataW H} {p : List MemPlace} (ho : Opens enc P w base spare held t S) (h : DataW.Trod enc P w base spare held t v d p) : ∃ x fp, S.R w v.cells.toList x fp := by
 obtain ⟨fuel, hf⟩ := h
 exact ho fuel _ _ hf
end

end Go.Proofs.YtlegeancmcmbaaaDoor

/- The drawing of inputs: readers, and texts out of a list. -/
namespace Go.Proofs.YtlegeancmcmbaaaDoor
open Go.RowKit

theorem Rd.grow {w w' : World} {rb p : Nat} (H : Rd w rb p) (hb : Below w.heap.size w w') : Rd w' rb p := by
 obtain ⟨⟨a, l, cap, fp, h1, h2, h3, h4⟩, h5⟩ := H
 exact ⟨⟨a, l, cap, fp, (hb.block rb (Array.getElem?_eq_some_iff.1 h1).1).trans h1, (sSlice sByte).below h2 hb, h3, h4⟩, h5⟩
theorem Rd.lt {w : World} {rb p : Nat} (H : Rd w rb p) : rb < w.heap.size := by
 obtain ⟨⟨a, l, cap, fp, h1, h2, h3, h4⟩, h5⟩ := H
 exact (Array.getElem?_eq_some_iff.1 h1).1
theorem kept_below {B rb : Nat} {w0 w w' : World} (hb : Below B w0 w) (hk : Kept [rb] w w') (hr : B ≤ rb) (hs : B ≤ w.heap.size) : Below B w0 w' :=
 hb.trans (hk.below (fun b hb => by
  obtain rfl : b = rb := by simpa using hb
  exact hr) hs)

theorem lit_get (L : List ByteArray) (r : Int) (h0 : 0 ≤ r) (h1 : r < L.length) : ∃ s, s ∈ L ∧ ∀ A : Array Value, A = (L.map Value.string).toArray → A[r.toNat]? = some (.string s) := by
 have h : r.toNat < L.length := by omega
 refine ⟨L[r.toNat], List.getElem_mem h, ?_⟩
 rintro A rfl
 simp [List.getElem?_eq_getElem h]

theorem Kept.cell {fp : List Nat} {w w' : World} (hk : Kept fp w w') {p : Addr} (h1 : p.block < w.heap.size) (h2 : p.block ∉ fp) : w'.cell? p = w.cell? p :=
 World.cell?_of_block (hk.block p.block h1 h2)
theorem lit_pick (L : List ByteArray) (M : Nat) (hM : ∀ s ∈ L, s.size ≤ M) {rb : Nat} {wr w2 : World} {r : Int} (h0 : 0 ≤ r) (h1 : r < L.length) (hr : rb < wr.heap.size) (hK : Kept [rb] (wr.alloc (.cells (L.map Value.string).toArray 9)) w2) :
  ∃ s : ByteArray, s.size ≤ M ∧ w2.cell? ⟨wr.heap.size, r.toNat, none⟩ = some (.string s) := by
 obtain ⟨s, hs, hl⟩ := lit_get L r h0 h1
 refine ⟨s, hM s hs, ?_⟩
 rw [hK.cell (p := ⟨wr.heap.size, r.toNat, none⟩) (by simp) (by simp; omega), World.cell?_alloc_at _ _ _ _ rfl]
 exact hl _ rfl
def Opened (B : Nat) (w0 : World) (e : Ending) (w' : World) : Prop := ∃ rb, e = .returned (.pointer (some ⟨rb, 0, none⟩)) ∧ B ≤ rb ∧ Rd w' rb 0 ∧ Below B w0 w'

theorem slice_take {α : Type} {S : Shape α} {w : World} {a : Option Addr} {cap : Nat} {l : List α} {fp : List Nat} (n : Nat) (hn : n ≤ l.length) (H : (sSlice S).R w [.slice a l.length cap] l fp) :
  ∃ fp', (sSlice S).R w [.slice a n cap] (l.take n) fp' ∧ ∀ b ∈ fp', b ∈ fp := by
 obtain ⟨a', cap', hv, hc, hm, h⟩ := H
 simp only [List.cons.injEq, Value.slice.injEq, and_true, true_and] at hv
 obtain ⟨rfl, rfl⟩ := hv
 have hl : (l.take n).length = n := by simp; omega
 by_cases h0 : n = 0
 ·subst h0
  exact ⟨[], ⟨a, cap, by simp, by simp, hm, .inl ⟨by simp, rfl⟩⟩, by simp⟩
 ·rcases h with ⟨rfl, _⟩ | ⟨_, b, off, fps, ha, rfl, hb, he⟩
  ·simp at hn; omega
  ·refine ⟨b :: (List.range n).flatMap fps, ⟨a, cap, by rw [hl], by omega, hm, .inr ⟨by omega, b, off, fps, ha, by rw [hl], hb, fun i hi => ?_⟩⟩, ?_⟩
   ·rw [hl] at hi
    obtain ⟨es, h1, h2⟩ := he i (by omega)
    exact ⟨es, h1, by rw [List.getElem_take]; exact h2⟩
   ·intro x hx
    rcases List.mem_cons.1 hx with rfl | hx
    ·simp
    ·obtain ⟨i, hi, hx⟩ := List.mem_flatMap.1 hx
     refine List.mem_cons_of_mem _ (List.mem_flatMap.2 ⟨i, ?_, hx⟩)
     simp only [List.mem_range] at hi ⊢
     omega

theorem Opened.of {v : Value} {l : List UInt8} {a : Option Addr} {cap : Nat} {fp : List Nat} {w : World} (hv : v = .slice a l.length cap) (H : (sSlice sByte).R w [v] l fp) (hl : l.length ≤ 2000) :
  Opened w.heap.size w (.returned (.pointer (some ⟨w.heap.size, 0, none⟩))) (w.alloc (.cells #[v, .int .i64 0] 71)) := by
 subst hv
 have hb : Below w.heap.size w (w.alloc (.cells #[.slice a l.length cap, .int .i64 0] 71)) := (Below.refl _ _).alloc (Nat.le_refl _) _
 refine ⟨w.heap.size, rfl, Nat.le_refl _, ⟨⟨a, l, cap, fp, ?_, (sSlice sByte).below H hb, (sSlice sByte).lt H, hl⟩, by omega⟩, hb⟩
 show (w.heap.push _)[w.heap.size]? = _
 simp

set_option maxHeartbeats 1000000 in
theorem l20Open (v : Value) (l : List UInt8) (fp : List Nat) (w : World) (H : (sSlice sByte).R w [v] l fp) :
  Calls Tryd.prog 28 #[v] w (Opened w.heap.size w) := by
 obtain ⟨a, cap, hv, hc, hm, h⟩ := H
 obtain rfl : v = .slice a l.length cap := by simpa using hv
 unfold maxLen at hm
 by_cases hl : 2000 < l.length
 ·obtain ⟨fp', h', _⟩ := slice_take (S := sByte) 2000 (by omega) ⟨a, cap, rfl, hc, hm, h⟩
  have HO := Lib.hid (fun v hv (h : (sSlice sByte).R w [v] (l.take 2000) fp') => Opened.of (v := v) (a := a) (cap := cap) hv h (by simp; omega))
  go_enter Tryd.func28, Tryd.ntmps28
  go_wp2
  go_ret
  exact HO.out _ (by rw [List.length_take, Nat.min_eq_left (by omega)]) h'
 ·have HO := Lib.hid (Opened.of (v := .slice a l.length cap) rfl ⟨a, cap, rfl, hc, hm, h⟩ (by omega))
  go_enter Tryd.func28, Tryd.ntmps28
  go_wp2
  go_ret
  exact HO.out

end Go.Proofs.YtlegeancmcmbaaaDoor

/- What slots hold in regions that draw their order, beside a reader. -/
namespace Go.Proofs.YtlegeancmcmbaaaDoor
open Go.RowKit

def StepsFrom (P : Program) (ops : Array Oper) (Rl : World → World → Prop) (Ps : List (Value → World → Prop)) (J : Nat → World → Prop) (a : Act) : Nat → List Oper → Prop
 | _, [] => True
 | i, o :: t => StepOk P ops Rl Ps J a i o ∧ StepsFrom P ops Rl Ps J a (i + 1) t
theorem steps_of {P : Program} {ops : Array Oper} {Rl : World → World → Prop} {Ps : List (Value → World → Prop)} {J : Nat → World → Prop} {a : Act} :
  ∀ (l : List Oper) (k : Nat), (∀ j, l[j]? = ops[k + j]?) → StepsFrom P ops Rl Ps J a k l → ∀ i o, k ≤ i → ops[i]? = some o → StepOk P ops Rl Ps J a i o := by
 intro l
 induction l with
 |
  nil =>
  intro k h _ i o hk hi
  have := h (i - k)
  rw [show k + (i - k) = i from by omega, hi] at this
  simp at this
 |
  cons x t ih =>
  intro k h hs i o hk hi
  by_cases e : i = k
  ·subst e
   have h0 := h 0
   rw [Nat.add_zero, hi] at h0
   simp only [List.getElem?_cons_zero, Option.some.injEq] at h0
   subst h0
   exact hs.1
  ·exact ih (k + 1) (fun j => by have := h (j + 1); rw [List.getElem?_cons_succ] at this; rw [this]; congr 1; omega) hs.2 i o (by omega) hi
theorem steps_all {P : Program} {ops : Array Oper} {Rl : World → World → Prop} {Ps : List (Value → World → Prop)} {J : Nat → World → Prop} {a : Act} (h : StepsFrom P ops Rl Ps J a 0 ops.toList) :
  ∀ i o, ops[i]? = some o → StepOk P ops Rl Ps J a i o := fun i o hi => steps_of ops.toList 0 (fun j => by simp) h i o (Nat.zero_le _) hi

def Stable (fb : List Nat) (p : Value → World → Prop) : Prop := ∀ v w w', Kept fb w w' → p v w → p v w'
def StabAll (fb : List Nat) : List (Value → World → Prop) → Prop
 | [] => True
 | p :: t => Stable fb p ∧ StabAll fb t
theorem stab_all {fb : List Nat} : ∀ {Ps : List (Value → World → Prop)}, StabAll fb Ps → ∀ p ∈ Ps, ∀ v w w', Kept fb w w' → p v w → p v w'
 | [], _, p, hp => by cases hp
 |
  q :: t, h, p, hp => by
  rcases List.mem_cons.1 hp with rfl | hp
  ·exact h.1
  ·exact stab_all h.2 p hp

def pVal (x : Value) : Value → World → Prop := fun v _ => v = x
def pStr (M : Nat) : Value → World → Prop := fun v _ => ∃ s : ByteArray, v = .string s ∧ s.size ≤ M
def pInt (n : Int) : Value → World → Prop := fun v _ => ∃ r : Int, v = .int .i64 r ∧ 0 ≤ r ∧ r < n
def pLits (fb : List Nat) (n M : Nat) : Value → World → Prop := fun v w => ∃ b, v = .slice (some ⟨b, 0, none⟩) n n ∧ b ∉ fb ∧ b < w.heap.size ∧ ∀ j, j < n → ∃ s : ByteArray, w.cell? ⟨b, j, none⟩ = some (.string s) ∧ s.size ≤ M
def pPtr (fb : List Nat) (M : Nat) : Value → World → Prop := fun v w => ∃ (b j : Nat) (s : ByteArray), v = .pointer (some ⟨b, j, none⟩) ∧ b ∉ fb ∧ b < w.heap.size ∧ w.cell? ⟨b, j, none⟩ = some (.string s) ∧ s.size ≤ M
theorem stVal {fb : List Nat} (x : Value) : Stable fb (pVal x) := fun _ _ _ _ h => h
theorem stStr {fb : List Nat} (M : Nat) : Stable fb (pStr M) := fun _ _ _ _ h => h
theorem stInt {fb : List Nat} (n : Int) : Stable fb (pInt n) := fun _ _ _ _ h => h
theorem stLits {fb : List Nat} (n M : Nat) : Stable fb (pLits fb n M) := fun v w w' hk ⟨b, h1, h2, h3, h4⟩ =>
 ⟨b, h1, h2, Nat.lt_of_lt_of_le h3 hk.size, fun j hj => by
  obtain ⟨s, h5, h6⟩ := h4 j hj
  exact ⟨s, (hk.cell (p := ⟨b, j, none⟩) h3 h2).trans h5, h6⟩⟩
theorem stPtr {fb : List Nat} (M : Nat) : Stable fb (pPtr fb M) := fun v w w' hk ⟨b, j, s, h1, h2, h3, h4, h5⟩ =>
 ⟨b, j, s, h1, h2, Nat.lt_of_lt_of_le h3 hk.size, (hk.cell (p := ⟨b, j, none⟩) h3 h2).trans h4, h5⟩
theorem pLits_new (L : List ByteArray) (M : Nat) (fb : List Nat) (w : World) (hM : ∀ s ∈ L, s.size ≤ M) (hr : ∀ b ∈ fb, b < w.heap.size) (n : Nat) (hn : L.length = n) :
  pLits fb n M (.slice (some ⟨w.heap.size, 0, none⟩) n n) (w.alloc (.cells (L.map Value.string).toArray 9)) := by
 refine ⟨w.heap.size, rfl, fun h => by have := hr _ h; omega, by simp, fun j hj => ⟨L[j]'(by omega), ?_, hM _ (List.getElem_mem _)⟩⟩
 rw [World.cell?_alloc_at _ _ _ _ rfl]
 simp [List.getElem?_eq_getElem (show j < L.length by omega)]
def jRd (rb p0 : Nat) (w0 : World) (m : Nat) (w : World) : Prop := (∃ p, p ≤ p0 + m ∧ Rd w rb p) ∧ Kept [rb] w0 w
theorem jRd.same {rb p0 m : Nat} {w0 w : World} (h : jRd rb p0 w0 m w) : jRd rb p0 w0 (m + 1) w := by
 obtain ⟨⟨p, h1, h2⟩, h3⟩ := h
 exact ⟨⟨p, by omega, h2⟩, h3⟩
theorem jRd.alloc {rb p0 m : Nat} {w0 w : World} (h : jRd rb p0 w0 m w) (o : Obj) : jRd rb p0 w0 (m + 1) (w.alloc o) := by
 obtain ⟨⟨p, h1, h2⟩, h3⟩ := h
 have hb := (Below.refl w.heap.size w).alloc (Nat.le_refl _) o
 exact ⟨⟨p, by omega, h2.grow hb⟩, h3.trans (Kept.of_below hb)⟩
theorem jRd.lt {rb p0 m : Nat} {w0 w : World} (h : jRd rb p0 w0 m w) : rb < w.heap.size := by
 obtain ⟨⟨p, h1, h2⟩, h3⟩ := h
 exact h2.lt
theorem jRd.lts {rb p0 m : Nat} {w0 w : World} (h : jRd rb p0 w0 m w) : ∀ b ∈ [rb], b < w.heap.size := fun b hb => by
 have : b = rb := by simpa using hb
 subst this; exact h.lt
theorem jRd.start {rb p : Nat} {w : World} (h : Rd w rb p) : jRd rb p w 0 { w with drawn := w.drawn + 1 } :=
 ⟨⟨p, by omega, ⟨h.ex, h.hp⟩⟩, (Kept.refl [rb] w).drewN 1⟩
theorem At.mk {Ps : List (Value → World → Prop)} {i : Nat} {p : Value → World → Prop} {v : Value} {w : World} (h : Ps[i]? = some p) (hp : p v w) : At Ps i v w := by
 intro q hq
 rw [h] at hq
 cases hq
 exact hp

theorem jRd.le {rb p0 m m' : Nat} {w0 w : World} (h : jRd rb p0 w0 m w) (hm : m ≤ m') : jRd rb p0 w0 m' w := by
 obtain ⟨⟨p, h1, h2⟩, h3⟩ := h
 exact ⟨⟨p, by omega, h2⟩, h3⟩
theorem jRd.begin {rb p : Nat} {w : World} (h : Rd w rb p) : jRd rb p w 0 w := ⟨⟨p, by omega, h⟩, Kept.refl _ _⟩
theorem jRd.made {rb p0 m : Nat} {w0 w : World} (h : jRd rb p0 w0 m w) (o : Obj) : jRd rb p0 w0 m (w.alloc o) := by
 obtain ⟨⟨p, h1, h2⟩, h3⟩ := h
 have hb := (Below.refl w.heap.size w).alloc (Nat.le_refl _) o
 exact ⟨⟨p, h1, h2.grow hb⟩, h3.trans (Kept.of_below hb)⟩
theorem jRd.top {rb p0 m B : Nat} {w00 w0 w : World} (h : jRd rb p0 w0 m w) (hb : Below B w00 w0) (hr : B ≤ rb) (hs : B ≤ w0.heap.size) : Below B w00 w := kept_below hb h.2 hr hs
theorem pickJ {rb p0 m : Nat} {w0 w : World} (n : Int) (h : jRd rb p0 w0 m w) (hp : p0 + m < 1000000) (hn : n ≤ 1000000) (hn1 : 1 ≤ n) :
  Calls Tryd.prog 29 #[.pointer (some ⟨rb, 0, none⟩), .int .i64 n] w fun e w' => ∃ r : Int, e = .returned (.int .i64 r) ∧ 0 ≤ r ∧ r < n ∧ jRd rb p0 w0 (m + 1) w' ∧ Kept [rb] w w' := by
 obtain ⟨⟨p, h1, h2⟩, h3⟩ := h
 refine (pick rb p n w h2 (by omega) hn (by omega)).mono ?_
 rintro e w' ⟨r, rfl, hr0, hr1, hR, hK⟩
 exact ⟨r, rfl, hr0, by omega, ⟨⟨p + 1, by omega, hR⟩, h3.trans hK⟩, hK⟩
theorem oddJ {rb p0 m : Nat} {w0 w : World} (n : Int) (h : jRd rb p0 w0 m w) (hp : p0 + m < 1000000) (hn : n ≤ 1000000) (hn0 : 0 ≤ n) :
  Calls Tryd.prog 33 #[.pointer (some ⟨rb, 0, none⟩), .int .i64 n] w fun e w' => ∃ b : Bool, e = .returned (.bool b) ∧ jRd rb p0 w0 (m + 1) w' ∧ Kept [rb] w w' := by
 obtain ⟨⟨p, h1, h2⟩, h3⟩ := h
 refine (odd rb p n w h2 (by omega) hn hn0).mono ?_
 rintro e w' ⟨b, q, rfl, hq1, hq2, hR, hK⟩
 exact ⟨b, rfl, ⟨⟨q, by omega, hR⟩, h3.trans hK⟩, hK⟩

def jOwn (rb p0 : Nat) (w0 : World) (B : Nat) (v : Value) (L : List ByteArray) (k N M : Nat) (m : Nat) (w : World) : Prop :=
 (∃ p, p ≤ p0 + m ∧ Rd w rb p) ∧ Below w0.heap.size w0 w ∧
  (w.ownsRow B 9 1 v L.length (L.map Value.string) ∨ m = N ∧ ∃ s : ByteArray, s.size ≤ M ∧ w.ownsRow B 9 1 v L.length ((L.set k s).map Value.string))
section
variable {rb p0 B k N M m : Nat} {w0 w w' : World} {v : Value} {L : List ByteArray}
theorem jOwn.row (h : jOwn rb p0 w0 B v L k N M m w) (hm : m < N) : w.ownsRow B 9 1 v L.length (L.map Value.string) := by
 rcases h.2.2 with h | ⟨h, _⟩
 ·exact h
 ·omega
theorem jOwn.same (h : jOwn rb p0 w0 B v L k N M m w) (hm : m < N) : jOwn rb p0 w0 B v L k N M (m + 1) w := by
 obtain ⟨p, h1, h2⟩ := h.1
 exact ⟨⟨p, by omega, h2⟩, h.2.1, .inl (h.row hm)⟩
theorem jOwn.alloc (h : jOwn rb p0 w0 B v L k N M m w) (hm : m < N) (o : Obj) : jOwn rb p0 w0 B v L k N M (m + 1) (w.alloc o) := by
 obtain ⟨p, h1, h2⟩ := h.1
 have hb := (Below.refl w.heap.size w).alloc (Nat.le_refl _) o
 exact ⟨⟨p, by omega, h2.grow hb⟩, h.2.1.alloc h.2.1.size o, .inl ((h.row hm).alloc o)⟩
theorem Rd.kept {rb p : Nat} {fp : List Nat} {w w' : World} (h : Rd w rb p) (hk : Kept fp w w') (hf : ∀ b ∈ fp, rb < b) : Rd w' rb p := by
 have hlt := h.lt
 obtain ⟨⟨a, l, cap, fq, h1, h2, h3, h4⟩, h5⟩ := h
 refine ⟨⟨a, l, cap, fq, (hk.block rb hlt (fun hx => by have := hf rb hx; omega)).trans h1, (sSlice sByte).kept h2 (fun b hb hx => by have := hf b hx; have := h3 b hb; omega) hk, h3, h4⟩, h5⟩
theorem jOwn.store {g cap n : Nat} {s : ByteArray} (h : jOwn rb p0 w0 B (.slice (some ⟨g, 0, none⟩) n cap) L k N M m w) (hm : m < N) (hN : m + 1 = N) (hs : s.size ≤ M) (hrb : rb < B) (hg : B ≤ g) (hw0 : w0.heap.size ≤ B) :
  jOwn rb p0 w0 B (.slice (some ⟨g, 0, none⟩) n cap) L k N M (m + 1) (w.setCell ⟨g, k, none⟩ (.string s)) := by
 obtain ⟨p, h1, h2⟩ := h.1
 have hrow := h.row hm
 have hn : L.length = n := by
  rcases hrow.2 with ⟨h', _⟩ | ⟨g', cap', cur, h', _⟩
  ·cases h'
  ·simp only [Value.slice.injEq] at h'; exact h'.2.1.symm
 subst hn
 have hk : Kept [g] w (w.setCell ⟨g, k, none⟩ (.string s)) := (Kept.refl _ _).setCell (by simp) _
 refine ⟨⟨p, by omega, h2.kept hk (fun b hb => by have e : b = g := (by simpa using hb); omega)⟩, h.2.1.trans (hk.below (fun b hb => by have e : b = g := (by simpa using hb); omega) h.2.1.size), .inr ⟨hN, s, hs, ?_⟩⟩
 have := (hrow.stored k (.string s)).1
 rw [List.map_set]
 exact this
end
end Go.Proofs.YtlegeancmcmbaaaDoor

/- The drawing of lines of a file. -/
namespace Go.Proofs.YtlegeancmcmbaaaDoor
open Go.RowKit

def source_lits : List ByteArray := [⟨#[35, 100, 101, 102, 105, 110, 101, 32, 97, 32, 49]⟩, ⟨#[35, 100, 101, 102, 105, 110, 101, 32, 98, 32, 97, 32, 43, 32, 50]⟩, ⟨#[35, 100, 101, 102, 105, 110, 101, 32, 102, 40, 120, 41, 32, 120, 32, 43, 32, 120]⟩, ⟨#[35, 117, 110, 100, 101, 102, 32, 97]⟩, ⟨#[35, 105, 102, 32, 97]⟩, ⟨#[35, 105, 102, 100, 101, 102, 32, 97]⟩, ⟨#[35, 105, 102, 110, 100, 101, 102, 32, 98]⟩, ⟨#[35, 101, 108, 105, 102, 32, 98, 32, 61, 61, 32, 51]⟩, ⟨#[35, 101, 108, 115, 101]⟩, ⟨#[35, 101, 110, 100, 105, 102]⟩, ⟨#[35, 101, 110, 100, 105, 102]⟩, ⟨#[35, 105, 110, 99, 108, 117, 100, 101, 32, 34, 111, 110, 101, 34]⟩, ⟨#[35, 105, 110, 99, 108, 117, 100, 101, 32, 34, 116, 119, 111, 34]⟩, ⟨#[35, 101, 114, 114, 111, 114]⟩, ⟨#[97, 32, 98]⟩, ⟨#[102, 40, 97, 41, 32, 47, 47, 32, 99]⟩, ⟨#[120, 32, 47, 42, 32, 99, 32, 42, 47, 32, 121]⟩, ⟨#[]⟩, ⟨#[35, 105, 102, 32, 100, 101, 102, 105, 110, 101, 100, 40, 97, 41, 32, 38, 38, 32, 98, 32, 62, 32, 49]⟩, ⟨#[35, 32, 100, 101, 102, 105, 110, 101, 32, 65, 66, 40, 120, 44, 121, 41, 32, 120, 32, 35, 35, 32, 121]⟩, ⟨#[65, 66, 40, 97, 44, 49, 41]⟩]
theorem source_lits_size : ∀ s ∈ source_lits, s.size ≤ 30 := by decide
set_option maxHeartbeats 2000000 in
theorem l20Source {rb p0 m : Nat} {w0 w : World} (h : jRd rb p0 w0 m w) (hp : p0 + m < 1000000) :
  Calls Tryd.prog 54 #[.pointer (some ⟨rb, 0, none⟩)] w fun e w' => ∃ s : ByteArray, e = .returned (.string s) ∧ s.size ≤ 30 ∧ jRd rb p0 w0 (m + 1) w' ∧ Kept [rb] w w' := by
 have hlt := h.lt
 go_enter Tryd.func54, Tryd.ntmps54
 go_wp2_with fail
 refine (pickJ _ (h.made _) hp (by omega) (by omega)).mono ?_
 rintro e w2 ⟨r, rfl, h0, h1, hJ, hK⟩
 obtain ⟨s, hs, hc⟩ := lit_pick source_lits 30 source_lits_size h0 (by show r < 21; omega) hlt hK
 go_wp2
 go_ret
 exact ⟨s, rfl, hs, hJ, (Kept.of_below ((Below.refl _ _).alloc (Nat.le_refl _) _)).trans hK⟩

end Go.Proofs.YtlegeancmcmbaaaDoor

/- The drawing of kinds and of lines with directives. -/
namespace Go.Proofs.YtlegeancmcmbaaaDoor
open Go.RowKit

def order_lits : List ByteArray := [⟨#[35]⟩, ⟨#[35, 32, 49]⟩, ⟨#[35, 100, 101, 102, 105, 110, 101]⟩, ⟨#[35, 100, 101, 102, 105, 110, 101, 32, 49]⟩, ⟨#[35, 117, 110, 100, 101, 102]⟩, ⟨#[35, 117, 110, 100, 101, 102, 32, 97, 32, 98]⟩, ⟨#[35, 105, 102]⟩, ⟨#[35, 105, 102, 100, 101, 102, 32, 49]⟩, ⟨#[35, 101, 108, 115, 101, 32, 120]⟩, ⟨#[35, 101, 110, 100, 105, 102, 32, 49]⟩, ⟨#[35, 105, 110, 99, 108, 117, 100, 101, 32, 97]⟩, ⟨#[35, 105, 110, 99, 108, 117, 100, 101, 32, 34, 97, 34, 32, 98]⟩, ⟨#[35, 111, 116, 104, 101, 114]⟩, ⟨#[35, 35]⟩, ⟨#[35, 101, 114, 114, 111, 114, 32, 97, 32, 98]⟩]
theorem order_lits_size : ∀ s ∈ order_lits, s.size ≤ 30 := by decide
set_option maxHeartbeats 4000000 in
theorem l20Order {rb p0 m : Nat} {w0 w : World} (h : jRd rb p0 w0 m w) (hp : p0 + m < 100000) :
  Calls Tryd.prog 32 #[.pointer (some ⟨rb, 0, none⟩)] w fun e w' => ∃ s : ByteArray, e = .returned (.string s) ∧ s.size ≤ 30 ∧ jRd rb p0 w0 (m + 3) w' ∧ Kept [rb] w w' := by
 go_enter Tryd.func32, Tryd.ntmps32
 go_wp2_with fail
 refine (l20Source h (by omega)).mono ?_
 rintro e w2 ⟨s, rfl, hs, hJ2, hK2⟩
 go_wp2_with fail
 refine (oddJ _ hJ2 (by omega) (by omega) (by omega)).mono ?_
 rintro e w3 ⟨b, rfl, hJ3, hK3⟩
 have hK := hK2.trans hK3
 clear hK2 hK3 hJ2
 cases b
 ·go_wp2
  go_ret
  exact ⟨s, rfl, hs, hJ3.le (by omega), hK⟩
 ·have hlt := hJ3.lt
  go_wp2_with fail
  refine (pickJ _ (hJ3.made _) (by omega) (by omega) (by omega)).mono ?_
  rintro e w4 ⟨r, rfl, h0, h1, hJ4, hK4⟩
  obtain ⟨x, hx, hc⟩ := lit_pick order_lits 30 order_lits_size h0 (by show r < 15; omega) hlt hK4
  go_wp2
  go_ret
  exact ⟨x, rfl, hx, hJ4.le (by omega), hK.trans ((Kept.of_below ((Below.refl _ _).alloc (Nat.le_refl _) _)).trans hK4)⟩

end Go.Proofs.YtlegeancmcmbaaaDoor
