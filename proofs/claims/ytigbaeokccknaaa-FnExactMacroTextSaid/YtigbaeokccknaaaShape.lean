/- Data in memory: what cells read as, and in which blocks. Over any program. -/
import Derived.Test.YtigbaeokccknaaaLib
namespace Go.Proofs.Ytigbaeokccknaaa
open Go.RowKit

/-- How cells read as data: 'R w cs d fp': in w the cells cs read as d, out of the blocks fp. -/
structure Shape (α : Type) where
  m : Nat
  R : World → List Value → α → List Nat → Prop
  frame : ∀ {w w' : World} {cs : List Value} {d : α} {fp : List Nat}, (∀ b ∈ fp, w'.heap[b]? = w.heap[b]?) → R w cs d fp → R w' cs d fp
  lt : ∀ {w : World} {cs : List Value} {d : α} {fp : List Nat}, R w cs d fp → ∀ b ∈ fp, b < w.heap.size

/-- One cell, no memory behind it. -/
def sFlat {α : Type} (enc : α → Value) (ok : α → Prop) : Shape α where
  m := 1
  R _ cs d fp := cs = [enc d] ∧ ok d ∧ fp = []
  frame _ h := h
  lt h := by obtain ⟨_, _, rfl⟩ := h; simp

def okStr (s : ByteArray) : Prop := s.size ≤ maxLen
def okInt (n : Int) : Prop := -9223372036854775808 ≤ n ∧ n ≤ 9223372036854775807
def encByte (b : UInt8) : Value := .int .u8 b.toNat
def sStr : Shape ByteArray := sFlat Value.string okStr
def sInt : Shape Int := sFlat (Value.int .i64) okInt
def sBool : Shape Bool := sFlat Value.bool fun _ => True
def sByte : Shape UInt8 := sFlat encByte fun _ => True

/-- The element i of a row of n elements of m cells each, at block b from off on. -/
def ElemAt (w : World) (b off m i : Nat) (es : List Value) : Prop := es.length = m ∧ ∀ j, j < m → w.cell? ⟨b, off + i * m + j, none⟩ = es[j]?

def RowR {α : Type} (S : Shape α) (w : World) (b off : Nat) (l : List α) (fps : Nat → List Nat) : Prop :=
  b < w.heap.size ∧ ∀ i, (h : i < l.length) → ∃ es, ElemAt w b off S.m i es ∧ S.R w es l[i] (fps i)

def SliceR {α : Type} (S : Shape α) (w : World) (cs : List Value) (l : List α) (fp : List Nat) : Prop :=
  ∃ a cap, cs = [.slice a l.length cap] ∧ l.length ≤ cap ∧ cap ≤ maxLen ∧
    ((l = [] ∧ fp = []) ∨ (0 < l.length ∧ ∃ b off fps, a = some ⟨b, off, none⟩ ∧ fp = b :: (List.range l.length).flatMap fps ∧ RowR S w b off l fps))

theorem ElemAt.frame {w w' : World} {b off m i : Nat} {es : List Value} (h : ElemAt w b off m i es) (hb : w'.heap[b]? = w.heap[b]?) : ElemAt w' b off m i es :=
  ⟨h.1, fun j hj => (World.cell?_of_block (w := w) (w' := w') (a := ⟨b, off + i * m + j, none⟩) hb).trans (h.2 j hj)⟩

def sSlice {α : Type} (S : Shape α) : Shape (List α) where
  m := 1
  R := SliceR S
  frame := by
    rintro w w' cs l fp hf ⟨a, cap, rfl, hc, hm, h⟩
    refine ⟨a, cap, rfl, hc, hm, ?_⟩
    rcases h with h | ⟨h0, b, off, fps, rfl, rfl, hb, he⟩
    · exact .inl h
    · refine .inr ⟨h0, b, off, fps, rfl, rfl, ?_, fun i hi => ?_⟩
      · have h1 := hf b (by simp)
        have h2 : w'.heap[b]? ≠ none := by rw [h1]; simp [hb]
        exact Nat.lt_of_not_le fun h => h2 (by simp [h])
      · obtain ⟨es, h1, h2⟩ := he i hi
        exact ⟨es, h1.frame (hf b (by simp)), S.frame (fun x hx => hf x (by simp; exact .inr ⟨i, hi, hx⟩)) h2⟩
  lt := by
    rintro w cs l fp ⟨a, cap, rfl, hc, hm, h⟩ x hx
    rcases h with ⟨_, rfl⟩ | ⟨h0, b, off, fps, rfl, rfl, hb, he⟩
    · simp at hx
    · simp at hx
      rcases hx with rfl | ⟨i, hi, hx⟩
      · exact hb
      · obtain ⟨es, h1, h2⟩ := he i hi
        exact S.lt h2 x hx

theorem Shape.below {α : Type} (S : Shape α) {w w' : World} {cs : List Value} {d : α} {fp : List Nat} (h : S.R w cs d fp) (hb : Below w.heap.size w w') : S.R w' cs d fp :=
  S.frame (fun b h' => hb.block b (S.lt h b h')) h

/-- All blocks of a reading lie below B. -/
def Under (B : Nat) (fp : List Nat) : Prop := ∀ b ∈ fp, b < B

theorem Shape.under {α : Type} (S : Shape α) {w w' : World} {B : Nat} {cs : List Value} {d : α} {fp : List Nat} (h : S.R w cs d fp) (hu : Under B fp) (hb : Below B w w') : S.R w' cs d fp :=
  S.frame (fun b h' => hb.block b (hu b h')) h

/-- A slice of one-cell values, opened: its value, its cells. -/
theorem open_flat {α : Type} {enc : α → Value} {ok : α → Prop} {w : World} {v : Value} {l : List α} {fp : List Nat} (h : (sSlice (sFlat enc ok)).R w [v] l fp) :
    ∃ a cap, v = .slice a l.length cap ∧ l.length ≤ cap ∧ cap ≤ maxLen ∧ (0 < l.length → ∃ b off, a = some ⟨b, off, none⟩ ∧ b < w.heap.size ∧ b ∈ fp ∧ ∀ i, (hi : i < l.length) → w.cell? ⟨b, off + i, none⟩ = some (enc l[i])) ∧ ∀ i, (hi : i < l.length) → ok l[i] := by
  obtain ⟨a, cap, hv, hc, hm, h⟩ := h
  refine ⟨a, cap, by simpa using hv, hc, hm, fun h0 => ?_, fun i hi => ?_⟩
  · rcases h with ⟨rfl, _⟩ | ⟨_, b, off, fps, rfl, rfl, hb, he⟩
    · simp at h0
    · refine ⟨b, off, rfl, hb, by simp, fun i hi => ?_⟩
      obtain ⟨es, h1, h2, _, _⟩ := he i hi
      have := h1.2 0 (by simp [sFlat])
      rw [h2] at this
      simpa [sFlat] using this
  · rcases h with ⟨rfl, _⟩ | ⟨_, b, off, fps, rfl, rfl, hb, he⟩
    · simp at hi
    · obtain ⟨es, h1, h2, h3, _⟩ := he i hi
      exact h3

theorem open_strs {w : World} {v : Value} {l : List ByteArray} {fp : List Nat} (h : (sSlice sStr).R w [v] l fp) :
    ∃ a cap, v = .slice a l.length cap ∧ l.length ≤ cap ∧ cap ≤ maxLen ∧ (0 < l.length → ∃ b off, a = some ⟨b, off, none⟩ ∧ b < w.heap.size ∧ b ∈ fp ∧ ∀ i, (hi : i < l.length) → w.cell? ⟨b, off + i, none⟩ = some (.string l[i])) ∧ ∀ i, (hi : i < l.length) → l[i].size ≤ maxLen :=
  open_flat h

/-- Blocks of the call's own: from lo on, each once, none frozen. -/
def Own (w : World) (lo : Nat) (fp : List Nat) : Prop := fp.Nodup ∧ ∀ b ∈ fp, lo ≤ b ∧ ∃ cur e, w.heap[b]? = some (.cells cur e (0, 0))

theorem Own.nil (w : World) (lo : Nat) : Own w lo [] := ⟨List.nodup_nil, by simp⟩

/-- Nothing but the blocks fp has turned. -/
structure Kept (fp : List Nat) (w w' : World) : Prop where
  os : w'.os = w.os
  tape : w'.tape = w.tape
  output : w'.output = w.output
  size : w.heap.size ≤ w'.heap.size
  block : ∀ k, k < w.heap.size → k ∉ fp → w'.heap[k]? = w.heap[k]?

theorem Kept.refl (fp : List Nat) (w : World) : Kept fp w w := ⟨rfl, rfl, rfl, Nat.le_refl _, fun _ _ _ => rfl⟩
theorem Kept.trans {fp : List Nat} {a b c : World} (h : Kept fp a b) (k : Kept fp b c) : Kept fp a c :=
  ⟨k.os.trans h.os, k.tape.trans h.tape, k.output.trans h.output, Nat.le_trans h.size k.size, fun i hi hn => (k.block i (Nat.lt_of_lt_of_le hi h.size) hn).trans (h.block i hi hn)⟩
theorem Kept.of_below {fp : List Nat} {a b : World} (h : Below a.heap.size a b) : Kept fp a b := ⟨h.os, h.tape, h.output, h.size, fun k hk _ => h.block k hk⟩
theorem Kept.mono {fp fp' : List Nat} {a b : World} (h : Kept fp a b) (hs : ∀ x ∈ fp, x ∈ fp') : Kept fp' a b := ⟨h.os, h.tape, h.output, h.size, fun k hk hn => h.block k hk fun hx => hn (hs k hx)⟩
theorem Kept.setCell {fp : List Nat} {a w : World} (h : Kept fp a w) {p : Addr} (hp : p.block ∈ fp) (u : Value) : Kept fp a (w.setCell p u) :=
  h.trans ⟨rfl, rfl, rfl, by simp [World.setCell], fun k hk hn => Below.heap_setCell _ _ _ _ (by rintro rfl; exact hn hp)⟩
theorem Kept.drewN {fp : List Nat} {a w : World} (h : Kept fp a w) (n : Nat) : Kept fp a (w.drewN n) := ⟨h.os, h.tape, h.output, h.size, h.block⟩
theorem Kept.below {fp : List Nat} {lo : Nat} {a w : World} (h : Kept fp a w) (hlo : ∀ b ∈ fp, lo ≤ b) (hs : lo ≤ a.heap.size) : Below lo a w :=
  ⟨h.os, h.tape, h.output, h.size, fun k hk => h.block k (by omega) fun hx => by have := hlo k hx; omega⟩

theorem Shape.kept {α : Type} (S : Shape α) {w w' : World} {cs : List Value} {d : α} {fp fp' : List Nat} (h : S.R w cs d fp') (hd : ∀ b ∈ fp', b ∉ fp) (hk : Kept fp w w') : S.R w' cs d fp' :=
  S.frame (fun b h' => hk.block b (S.lt h b h') (hd b h')) h
theorem Own.kept {w w' : World} {lo : Nat} {fp fp' : List Nat} (h : Own w lo fp') (hd : ∀ b ∈ fp', b ∉ fp) (hk : Kept fp w w') : Own w' lo fp' :=
  ⟨h.1, fun b hb => by
    obtain ⟨h1, cur, e, h2⟩ := h.2 b hb
    exact ⟨h1, cur, e, (hk.block b (Array.getElem?_eq_some_iff.1 h2).1 (hd b hb)).trans h2⟩⟩
theorem Own.below {w w' : World} {lo B : Nat} {fp : List Nat} (h : Own w lo fp) (hu : ∀ b ∈ fp, b < B) (hb : Below B w w') : Own w' lo fp :=
  ⟨h.1, fun b hb' => by
    obtain ⟨h1, cur, e, h2⟩ := h.2 b hb'
    exact ⟨h1, cur, e, (hb.block b (hu b hb')).trans h2⟩⟩
theorem Own.lt {w : World} {lo : Nat} {fp : List Nat} (h : Own w lo fp) : ∀ b ∈ fp, b < w.heap.size := fun b hb => by
  obtain ⟨_, cur, e, h2⟩ := h.2 b hb
  exact (Array.getElem?_eq_some_iff.1 h2).1
theorem Own.grow {w w' : World} {lo : Nat} {fp : List Nat} (h : Own w lo fp) (hb : Below w.heap.size w w') : Own w' lo fp := h.below h.lt hb
theorem Own.frozen {w : World} {lo : Nat} {fp : List Nat} (h : Own w lo fp) {b : Nat} (hb : b ∈ fp) (j : Nat) : w.frozen? ⟨b, j, none⟩ = false := by
  obtain ⟨_, cur, e, h2⟩ := h.2 b hb
  exact frozen_of_row w b j cur e h2
theorem Own.setCell {w : World} {lo : Nat} {fp : List Nat} (h : Own w lo fp) (p : Addr) (u : Value) : Own (w.setCell p u) lo fp :=
  ⟨h.1, fun b hb => by
    obtain ⟨h1, cur, e, h2⟩ := h.2 b hb
    by_cases hp : b = p.block
    · subst hp
      refine ⟨h1, if p.spot.isSome then cur else cur.setIfInBounds p.off u, e, ?_⟩
      simp [World.setCell, Array.getElem?_modify, h2]
    · exact ⟨h1, cur, e, (Below.heap_setCell _ _ _ _ hp).trans h2⟩⟩

/-- A store into a slice of one-cell values. -/
theorem flat_set {α : Type} {enc : α → Value} {ok : α → Prop} {w : World} {b off n cap : Nat} {l : List α} {fp : List Nat} (h : (sSlice (sFlat enc ok)).R w [.slice (some ⟨b, off, none⟩) n cap] l fp) {i : Nat} (hi : i < l.length) {d : α} (hd : ok d) :
    (sSlice (sFlat enc ok)).R (w.setCell ⟨b, off + i, none⟩ (enc d)) [.slice (some ⟨b, off, none⟩) n cap] (l.set i d) fp := by
  obtain ⟨a, cap', hv, hc, hm, h⟩ := h
  simp only [List.cons.injEq, Value.slice.injEq, and_true] at hv
  obtain ⟨rfl, rfl, rfl⟩ := hv
  rcases h with ⟨rfl, _⟩ | ⟨h0, b', off', fps, ha, rfl, hb, he⟩
  · simp at hi
  · simp only [Option.some.injEq, Addr.mk.injEq, and_true] at ha
    obtain ⟨rfl, rfl⟩ := ha
    refine ⟨_, _, by simp, by simpa using hc, hm, .inr ⟨by simpa using h0, b, off, fps, rfl, by simp, by simpa [World.setCell] using hb, fun j hj => ?_⟩⟩
    have hj' : j < l.length := by simpa using hj
    obtain ⟨es, h1, h2, h3, h4⟩ := he j hj'
    have hcell : w.cell? ⟨b, off + j, none⟩ = some (enc l[j]) := by
      have := h1.2 0 (by simp [sFlat])
      rw [h2] at this
      simpa [sFlat] using this
    refine ⟨[enc ((l.set i d)[j])], ⟨rfl, fun x hx => ?_⟩, rfl, ?_, h4⟩
    · have hx0 : x = 0 := by simp [sFlat] at hx; omega
      subst hx0
      simp only [sFlat, Nat.mul_one, Nat.add_zero, List.length_cons, List.length_nil, Nat.zero_add, Nat.lt_add_one, List.getElem?_eq_getElem, List.getElem_cons_zero]
      by_cases e : j = i
      · subst e
        rw [List.getElem_set_self]
        exact World.cell?_setCell_same _ _ _ hcell
      · rw [List.getElem_set_ne (fun h => e h.symm), World.cell?_setCell_other _ _ _ _ (by intro hh; simp only [Addr.mk.injEq] at hh; omega)]
        exact hcell
    · by_cases e : j = i
      · subst e; rw [List.getElem_set_self]; exact hd
      · rw [List.getElem_set_ne (fun h => e h.symm)]; exact h3

end Go.Proofs.Ytigbaeokccknaaa
