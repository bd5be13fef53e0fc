/- Texts that the proof of U stands on, in one file. -/
import Derived.Test.YtghikfggcnabeaaZU6
import Derived.Test.YtghikfggcnabeaaZU2
import Derived.Laws.Concat
import Derived.Test.YtghikfggcnabeaaZU1
import Derived.Orders
import Derived.Lib.AppendStr
import Derived.Laws.IdiomStrings
import Derived.Test.YtghikfggcnabeaaZU3
import Derived.Test.YtghikfggcnabeaaZU5
set_option linter.unusedVariables false
set_option linter.unusedSimpArgs false
/- The drawing of inputs: readers, and texts out of a list. -/
namespace Go.Proofs.Ytghikfggcnabeaa
open Go.RowKit

theorem Rd.grow {w w' : World} {rb p : Nat} (H : Rd w rb p) (hb : Below w.heap.size w w') : Rd w' rb p := by
 obtain ⟨⟨a, l, cap, fp, h1, h2, h3, h4⟩, h5⟩ := H
 exact ⟨⟨a, l, cap, fp, (hb.block rb (Array.getElem?_eq_some_iff.1 h1).1).trans h1, (sSlice sByte).below h2 hb, h3, h4⟩, h5⟩
theorem Rd.lt {w : World} {rb p : Nat} (H : Rd w rb p) : rb < w.heap.size := by
 obtain ⟨⟨a, l, cap, fp, h1, h2, h3, h4⟩, h5⟩ := H
 exact (Array.getElem?_eq_some_iff.1 h1).1
theorem kept_below {B rb : Nat} {w0 w w' : World} (hb : Below B w0 w) (hk : Kept [rb] w w') (hr : B ≤ rb) (hs : B ≤ w.heap.size) : Below B w0 w' :=
 hb.trans (hk.below (fun b hb => by
  obtain rfl : b = rb := by simpa using hb
  exact hr) hs)

theorem Kept.cell {fp : List Nat} {w w' : World} (hk : Kept fp w w') {p : Addr} (h1 : p.block < w.heap.size) (h2 : p.block ∉ fp) : w'.cell? p = w.cell? p :=
 World.cell?_of_block (hk.block p.block h1 h2)
def Opened (B : Nat) (w0 : World) (e : Ending) (w' : World) : Prop := ∃ rb, e = .returned (.pointer (some ⟨rb, 0, none⟩)) ∧ B ≤ rb ∧ Rd w' rb 0 ∧ Below B w0 w'

theorem slice_take {α : Type} {S : Shape α} {w : World} {a : Option Addr} {cap : Nat} {l : List α} {fp : List Nat} (n : Nat) (hn : n ≤ l.length) (H : (sSlice S).R w [.slice a l.length cap] l fp) :
  ∃ fp', (sSlice S).R w [.slice a n cap] (l.take n) fp' ∧ ∀ b ∈ fp', b ∈ fp := by
 obtain ⟨a', cap', hv, hc, hm, h⟩ := H
 simp only [List.cons.injEq, Value.slice.injEq, and_true, true_and] at hv
 obtain ⟨rfl, rfl⟩ := hv
 have hl : (l.take n).length = n := by simp; omega
 by_cases h0 : n = 0
 ·subst h0
  exact ⟨[], ⟨a, cap, by simp, by simp, hm, .inl ⟨by simp, rfl⟩⟩, by simp⟩
 ·rcases h with ⟨rfl, _⟩ | ⟨_, b, off, fps, ha, rfl, hb, he⟩
  ·simp at hn; omega
  ·refine ⟨b :: (List.range n).flatMap fps, ⟨a, cap, by rw [hl], by omega, hm, .inr ⟨by omega, b, off, fps, ha, by rw [hl], hb, fun i hi => ?_⟩⟩, ?_⟩
   ·rw [hl] at hi
    obtain ⟨es, h1, h2⟩ := he i (by omega)
    exact ⟨es, h1, by rw [List.getElem_take]; exact h2⟩
   ·intro x hx
    rcases List.mem_cons.1 hx with rfl | hx
    ·simp
    ·obtain ⟨i, hi, hx⟩ := List.mem_flatMap.1 hx
     refine List.mem_cons_of_mem _ (List.mem_flatMap.2 ⟨i, ?_, hx⟩)
     simp only [List.mem_range] at hi ⊢
     omega

theorem Opened.of {v : Value} {l : List UInt8} {a : Option Addr} {cap : Nat} {fp : List Nat} {w : World} (hv : v = .slice a l.length cap) (H : (sSlice sByte).R w [v] l fp) (hl : l.length ≤ 2000) :
  Opened w.heap.size w (.returned (.pointer (some ⟨w.heap.size, 0, none⟩))) (w.alloc (.cells #[v, .int .i64 0] 55)) := by
 subst hv
 have hb : Below w.heap.size w (w.alloc (.cells #[.slice a l.length cap, .int .i64 0] 55)) := (Below.refl _ _).alloc (Nat.le_refl _) _
 refine ⟨w.heap.size, rfl, Nat.le_refl _, ⟨⟨a, l, cap, fp, ?_, (sSlice sByte).below H hb, (sSlice sByte).lt H, hl⟩, by omega⟩, hb⟩
 show (w.heap.push _)[w.heap.size]? = _
 simp

set_option maxHeartbeats 1000000 in
theorem l20Open (v : Value) (l : List UInt8) (fp : List Nat) (w : World) (H : (sSlice sByte).R w [v] l fp) :
  Calls Try.prog 21 #[v] w (Opened w.heap.size w) := by
 obtain ⟨a, cap, hv, hc, hm, h⟩ := H
 obtain rfl : v = .slice a l.length cap := by simpa using hv
 unfold maxLen at hm
 by_cases hl : 2000 < l.length
 ·obtain ⟨fp', h', _⟩ := slice_take (S := sByte) 2000 (by omega) ⟨a, cap, rfl, hc, hm, h⟩
  have HO := Lib.hid (fun v hv (h : (sSlice sByte).R w [v] (l.take 2000) fp') => Opened.of (v := v) (a := a) (cap := cap) hv h (by simp; omega))
  go_enter Try.func21, Try.ntmps21
  go_wp2
  go_ret
  exact HO.out _ (by rw [List.length_take, Nat.min_eq_left (by omega)]) h'
 ·have HO := Lib.hid (Opened.of (v := .slice a l.length cap) rfl ⟨a, cap, rfl, hc, hm, h⟩ (by omega))
  go_enter Try.func21, Try.ntmps21
  go_wp2
  go_ret
  exact HO.out

end Go.Proofs.Ytghikfggcnabeaa

/- MacroValid of the program. -/
namespace Go.Proofs.Ytghikfggcnabeaa
open Go.RowKit
end Go.Proofs.Ytghikfggcnabeaa

/- A region that draws its order, walked by what its operations leave: in whatever order they come up, each finds what those before it have left. Over any program. -/
namespace Go.Proofs.Ytghikfggcnabeaa
open Go.RowKit
def At (Ps : List (Value → World → Prop)) (i : Nat) (v : Value) (w : World) : Prop := ∀ p, Ps[i]? = some p → p v w
end Go.Proofs.Ytghikfggcnabeaa

/- Lists of a given length. -/
namespace Go.Proofs.Ytghikfggcnabeaa
open Go.RowKit
end Go.Proofs.Ytghikfggcnabeaa

/- What slots hold in regions that draw their order, beside a reader. -/
namespace Go.Proofs.Ytghikfggcnabeaa
open Go.RowKit
def jRd (rb p0 : Nat) (w0 : World) (m : Nat) (w : World) : Prop := (∃ p, p ≤ p0 + m ∧ Rd w rb p) ∧ Kept [rb] w0 w
theorem jRd.same {rb p0 m : Nat} {w0 w : World} (h : jRd rb p0 w0 m w) : jRd rb p0 w0 (m + 1) w := by
 obtain ⟨⟨p, h1, h2⟩, h3⟩ := h
 exact ⟨⟨p, by omega, h2⟩, h3⟩
theorem jRd.lt {rb p0 m : Nat} {w0 w : World} (h : jRd rb p0 w0 m w) : rb < w.heap.size := by
 obtain ⟨⟨p, h1, h2⟩, h3⟩ := h
 exact h2.lt
theorem At.mk {Ps : List (Value → World → Prop)} {i : Nat} {p : Value → World → Prop} {v : Value} {w : World} (h : Ps[i]? = some p) (hp : p v w) : At Ps i v w := by
 intro q hq
 rw [h] at hq
 cases hq
 exact hp

def jOwn (rb p0 : Nat) (w0 : World) (B : Nat) (v : Value) (L : List ByteArray) (k N M : Nat) (m : Nat) (w : World) : Prop :=
 (∃ p, p ≤ p0 + m ∧ Rd w rb p) ∧ Below w0.heap.size w0 w ∧
  (w.ownsRow B 9 1 v L.length (L.map Value.string) ∨ m = N ∧ ∃ s : ByteArray, s.size ≤ M ∧ w.ownsRow B 9 1 v L.length ((L.set k s).map Value.string))
section
variable {rb p0 B k N M m : Nat} {w0 w w' : World} {v : Value} {L : List ByteArray}
theorem jOwn.row (h : jOwn rb p0 w0 B v L k N M m w) (hm : m < N) : w.ownsRow B 9 1 v L.length (L.map Value.string) := by
 rcases h.2.2 with h | ⟨h, _⟩
 ·exact h
 ·omega
theorem jOwn.same (h : jOwn rb p0 w0 B v L k N M m w) (hm : m < N) : jOwn rb p0 w0 B v L k N M (m + 1) w := by
 obtain ⟨p, h1, h2⟩ := h.1
 exact ⟨⟨p, by omega, h2⟩, h.2.1, .inl (h.row hm)⟩
theorem Rd.kept {rb p : Nat} {fp : List Nat} {w w' : World} (h : Rd w rb p) (hk : Kept fp w w') (hf : ∀ b ∈ fp, rb < b) : Rd w' rb p := by
 have hlt := h.lt
 obtain ⟨⟨a, l, cap, fq, h1, h2, h3, h4⟩, h5⟩ := h
 refine ⟨⟨a, l, cap, fq, (hk.block rb hlt (fun hx => by have := hf rb hx; omega)).trans h1, (sSlice sByte).kept h2 (fun b hb hx => by have := hf b hx; have := h3 b hb; omega) hk, h3, h4⟩, h5⟩
theorem jOwn.store {g cap n : Nat} {s : ByteArray} (h : jOwn rb p0 w0 B (.slice (some ⟨g, 0, none⟩) n cap) L k N M m w) (hm : m < N) (hN : m + 1 = N) (hs : s.size ≤ M) (hrb : rb < B) (hg : B ≤ g) (hw0 : w0.heap.size ≤ B) :
  jOwn rb p0 w0 B (.slice (some ⟨g, 0, none⟩) n cap) L k N M (m + 1) (w.setCell ⟨g, k, none⟩ (.string s)) := by
 obtain ⟨p, h1, h2⟩ := h.1
 have hrow := h.row hm
 have hn : L.length = n := by
  rcases hrow.2 with ⟨h', _⟩ | ⟨g', cap', cur, h', _⟩
  ·cases h'
  ·simp only [Value.slice.injEq] at h'; exact h'.2.1.symm
 subst hn
 have hk : Kept [g] w (w.setCell ⟨g, k, none⟩ (.string s)) := (Kept.refl _ _).setCell (by simp) _
 refine ⟨⟨p, by omega, h2.kept hk (fun b hb => by have e : b = g := (by simpa using hb); omega)⟩, h.2.1.trans (hk.below (fun b hb => by have e : b = g := (by simpa using hb); omega) h.2.1.size), .inr ⟨hN, s, hs, ?_⟩⟩
 have := (hrow.stored k (.string s)).1
 rw [List.map_set]
 exact this
end
end Go.Proofs.Ytghikfggcnabeaa

/- Rows of bytes of the call's own. -/
namespace Go.Proofs.Ytghikfggcnabeaa
open Go.RowKit
def Bytes (base : Nat) (v : Value) (s : ByteArray) (w : World) : Prop := w.ownsRow base 5 1 v s.size (Lib.strCells s)
theorem Bytes.none (base : Nat) (w : World) : Bytes base (.slice Option.none 0 0) ⟨#[]⟩ w := World.ownsRow_nil _ _ _ _
end Go.Proofs.Ytghikfggcnabeaa

/- The drawing of a line. -/
namespace Go.Proofs.Ytghikfggcnabeaa
open Go.RowKit
end Go.Proofs.Ytghikfggcnabeaa

/- The drawing of tokens. -/
namespace Go.Proofs.Ytghikfggcnabeaa
open Go.RowKit
end Go.Proofs.Ytghikfggcnabeaa
