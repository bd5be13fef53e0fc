/- The drawing of inputs: readers, and texts out of a list. -/
import Derived.Test.YtigbaeokccknaaaDraw
import Derived.Test.YtigbaeokccknaaaOpen
import Derived.Laws.Concat
namespace Go.Proofs.Ytigbaeokccknaaa
open Go.RowKit

theorem Rd.grow {w w' : World} {rb p : Nat} (H : Rd w rb p) (hb : Below w.heap.size w w') : Rd w' rb p := by
  obtain ⟨⟨a, l, cap, fp, h1, h2, h3, h4⟩, h5⟩ := H
  exact ⟨⟨a, l, cap, fp, (hb.block rb (Array.getElem?_eq_some_iff.1 h1).1).trans h1, (sSlice sByte).below h2 hb, h3, h4⟩, h5⟩
theorem Rd.lt {w : World} {rb p : Nat} (H : Rd w rb p) : rb < w.heap.size := by
  obtain ⟨⟨a, l, cap, fp, h1, h2, h3, h4⟩, h5⟩ := H
  exact (Array.getElem?_eq_some_iff.1 h1).1
theorem kept_below {B rb : Nat} {w0 w w' : World} (hb : Below B w0 w) (hk : Kept [rb] w w') (hr : B ≤ rb) (hs : B ≤ w.heap.size) : Below B w0 w' :=
  hb.trans (hk.below (fun b hb => by
    obtain rfl : b = rb := by simpa using hb
    exact hr) hs)

/-- A text out of a list. -/
theorem lit_get (L : List ByteArray) (r : Int) (h0 : 0 ≤ r) (h1 : r < L.length) : ∃ s, s ∈ L ∧ ∀ A : Array Value, A = (L.map Value.string).toArray → A[r.toNat]? = some (.string s) := by
  have h : r.toNat < L.length := by omega
  refine ⟨L[r.toNat], List.getElem_mem h, ?_⟩
  rintro A rfl
  simp [List.getElem?_eq_getElem h]

theorem Kept.cell {fp : List Nat} {w w' : World} (hk : Kept fp w w') {p : Addr} (h1 : p.block < w.heap.size) (h2 : p.block ∉ fp) : w'.cell? p = w.cell? p :=
  World.cell?_of_block (hk.block p.block h1 h2)
/-- A text out of a list of texts that the call has just made, behind a pick. -/
theorem lit_pick (L : List ByteArray) (M : Nat) (hM : ∀ s ∈ L, s.size ≤ M) {rb : Nat} {wr w2 : World} {r : Int} (h0 : 0 ≤ r) (h1 : r < L.length) (hr : rb < wr.heap.size) (hK : Kept [rb] (wr.alloc (.cells (L.map Value.string).toArray 9)) w2) :
    ∃ s : ByteArray, s.size ≤ M ∧ w2.cell? ⟨wr.heap.size, r.toNat, none⟩ = some (.string s) := by
  obtain ⟨s, hs, hl⟩ := lit_get L r h0 h1
  refine ⟨s, hM s hs, ?_⟩
  rw [hK.cell (p := ⟨wr.heap.size, r.toNat, none⟩) (by simp) (by simp; omega), World.cell?_alloc_at _ _ _ _ rfl]
  exact hl _ rfl
/-- A reader of a slice of bytes. -/
def Opened (B : Nat) (w0 : World) (e : Ending) (w' : World) : Prop := ∃ rb, e = .returned (.pointer (some ⟨rb, 0, none⟩)) ∧ B ≤ rb ∧ Rd w' rb 0 ∧ Below B w0 w'

theorem slice_take {α : Type} {S : Shape α} {w : World} {a : Option Addr} {cap : Nat} {l : List α} {fp : List Nat} (n : Nat) (hn : n ≤ l.length) (H : (sSlice S).R w [.slice a l.length cap] l fp) :
    ∃ fp', (sSlice S).R w [.slice a n cap] (l.take n) fp' ∧ ∀ b ∈ fp', b ∈ fp := by
  obtain ⟨a', cap', hv, hc, hm, h⟩ := H
  simp only [List.cons.injEq, Value.slice.injEq, and_true, true_and] at hv
  obtain ⟨rfl, rfl⟩ := hv
  have hl : (l.take n).length = n := by simp; omega
  by_cases h0 : n = 0
  · subst h0
    exact ⟨[], ⟨a, cap, by simp, by simp, hm, .inl ⟨by simp, rfl⟩⟩, by simp⟩
  · rcases h with ⟨rfl, _⟩ | ⟨_, b, off, fps, ha, rfl, hb, he⟩
    · simp at hn; omega
    · refine ⟨b :: (List.range n).flatMap fps, ⟨a, cap, by rw [hl], by omega, hm, .inr ⟨by omega, b, off, fps, ha, by rw [hl], hb, fun i hi => ?_⟩⟩, ?_⟩
      · rw [hl] at hi
        obtain ⟨es, h1, h2⟩ := he i (by omega)
        exact ⟨es, h1, by rw [List.getElem_take]; exact h2⟩
      · intro x hx
        rcases List.mem_cons.1 hx with rfl | hx
        · simp
        · obtain ⟨i, hi, hx⟩ := List.mem_flatMap.1 hx
          refine List.mem_cons_of_mem _ (List.mem_flatMap.2 ⟨i, ?_, hx⟩)
          simp only [List.mem_range] at hi ⊢
          omega

theorem Opened.of {v : Value} {l : List UInt8} {a : Option Addr} {cap : Nat} {fp : List Nat} {w : World} (hv : v = .slice a l.length cap) (H : (sSlice sByte).R w [v] l fp) (hl : l.length ≤ 2000) :
    Opened w.heap.size w (.returned (.pointer (some ⟨w.heap.size, 0, none⟩))) (w.alloc (.cells #[v, .int .i64 0] 81)) := by
  subst hv
  have hb : Below w.heap.size w (w.alloc (.cells #[.slice a l.length cap, .int .i64 0] 81)) := (Below.refl _ _).alloc (Nat.le_refl _) _
  refine ⟨w.heap.size, rfl, Nat.le_refl _, ⟨⟨a, l, cap, fp, ?_, (sSlice sByte).below H hb, (sSlice sByte).lt H, hl⟩, by omega⟩, hb⟩
  show (w.heap.push _)[w.heap.size]? = _
  simp

set_option maxHeartbeats 1000000 in
theorem l20Open (v : Value) (l : List UInt8) (fp : List Nat) (w : World) (H : (sSlice sByte).R w [v] l fp) :
    Calls Try.prog 33 #[v] w (Opened w.heap.size w) := by
  obtain ⟨a, cap, hv, hc, hm, h⟩ := H
  obtain rfl : v = .slice a l.length cap := by simpa using hv
  unfold maxLen at hm
  by_cases hl : 2000 < l.length
  · obtain ⟨fp', h', _⟩ := slice_take (S := sByte) 2000 (by omega) ⟨a, cap, rfl, hc, hm, h⟩
    have HO := Lib.hid (fun v hv (h : (sSlice sByte).R w [v] (l.take 2000) fp') => Opened.of (v := v) (a := a) (cap := cap) hv h (by simp; omega))
    go_enter Try.func33, Try.ntmps33
    go_wp2
    go_ret
    exact HO.out _ (by rw [List.length_take, Nat.min_eq_left (by omega)]) h'
  · have HO := Lib.hid (Opened.of (v := .slice a l.length cap) rfl ⟨a, cap, rfl, hc, hm, h⟩ (by omega))
    go_enter Try.func33, Try.ntmps33
    go_wp2
    go_ret
    exact HO.out

def strip_lits : List ByteArray := [⟨#[97]⟩, ⟨#[32]⟩, ⟨#[47, 47]⟩, ⟨#[47, 42]⟩, ⟨#[42, 47]⟩, ⟨#[34]⟩, ⟨#[47]⟩, ⟨#[42]⟩, ⟨#[34, 47, 47, 34]⟩, ⟨#[92]⟩, ⟨#[98]⟩]
theorem strip_lits_size : ∀ s ∈ strip_lits, s.size ≤ 4 := by decide

end Go.Proofs.Ytigbaeokccknaaa
