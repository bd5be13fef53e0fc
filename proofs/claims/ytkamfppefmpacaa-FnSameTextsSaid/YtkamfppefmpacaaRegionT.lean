/- What slots hold in regions that draw their order, beside a reader. -/
import Derived.Test.YtkamfppefmpacaaRegion
import Derived.Test.YtkamfppefmpacaaLens
import Derived.Test.YtkamfppefmpacaaDraw2
namespace Go.Proofs.Ytkamfppefmpacaa
open Go.RowKit

def StepsFrom (P : Program) (ops : Array Oper) (Rl : World → World → Prop) (Ps : List (Value → World → Prop)) (J : Nat → World → Prop) (a : Act) : Nat → List Oper → Prop
  | _, [] => True
  | i, o :: t => StepOk P ops Rl Ps J a i o ∧ StepsFrom P ops Rl Ps J a (i + 1) t
theorem steps_of {P : Program} {ops : Array Oper} {Rl : World → World → Prop} {Ps : List (Value → World → Prop)} {J : Nat → World → Prop} {a : Act} :
    ∀ (l : List Oper) (k : Nat), (∀ j, l[j]? = ops[k + j]?) → StepsFrom P ops Rl Ps J a k l → ∀ i o, k ≤ i → ops[i]? = some o → StepOk P ops Rl Ps J a i o := by
  intro l
  induction l with
  | nil =>
    intro k h _ i o hk hi
    have := h (i - k)
    rw [show k + (i - k) = i from by omega, hi] at this
    simp at this
  | cons x t ih =>
    intro k h hs i o hk hi
    by_cases e : i = k
    · subst e
      have h0 := h 0
      rw [Nat.add_zero, hi] at h0
      simp only [List.getElem?_cons_zero, Option.some.injEq] at h0
      subst h0
      exact hs.1
    · exact ih (k + 1) (fun j => by have := h (j + 1); rw [List.getElem?_cons_succ] at this; rw [this]; congr 1; omega) hs.2 i o (by omega) hi
theorem steps_all {P : Program} {ops : Array Oper} {Rl : World → World → Prop} {Ps : List (Value → World → Prop)} {J : Nat → World → Prop} {a : Act} (h : StepsFrom P ops Rl Ps J a 0 ops.toList) :
    ∀ i o, ops[i]? = some o → StepOk P ops Rl Ps J a i o := fun i o hi => steps_of ops.toList 0 (fun j => by simp) h i o (Nat.zero_le _) hi

def Stable (fb : List Nat) (p : Value → World → Prop) : Prop := ∀ v w w', Kept fb w w' → p v w → p v w'
def StabAll (fb : List Nat) : List (Value → World → Prop) → Prop
  | [] => True
  | p :: t => Stable fb p ∧ StabAll fb t
theorem stab_all {fb : List Nat} : ∀ {Ps : List (Value → World → Prop)}, StabAll fb Ps → ∀ p ∈ Ps, ∀ v w w', Kept fb w w' → p v w → p v w'
  | [], _, p, hp => by cases hp
  | q :: t, h, p, hp => by
    rcases List.mem_cons.1 hp with rfl | hp
    · exact h.1
    · exact stab_all h.2 p hp

def pAny : Value → World → Prop := fun _ _ => True
def pVal (x : Value) : Value → World → Prop := fun v _ => v = x
def pStr (M : Nat) : Value → World → Prop := fun v _ => ∃ s : ByteArray, v = .string s ∧ s.size ≤ M
def pInt (n : Int) : Value → World → Prop := fun v _ => ∃ r : Int, v = .int .i64 r ∧ 0 ≤ r ∧ r < n
def pLits (fb : List Nat) (n M : Nat) : Value → World → Prop := fun v w => ∃ b, v = .slice (some ⟨b, 0, none⟩) n n ∧ b ∉ fb ∧ b < w.heap.size ∧ ∀ j, j < n → ∃ s : ByteArray, w.cell? ⟨b, j, none⟩ = some (.string s) ∧ s.size ≤ M
def pPtr (fb : List Nat) (M : Nat) : Value → World → Prop := fun v w => ∃ (b j : Nat) (s : ByteArray), v = .pointer (some ⟨b, j, none⟩) ∧ b ∉ fb ∧ b < w.heap.size ∧ w.cell? ⟨b, j, none⟩ = some (.string s) ∧ s.size ≤ M
theorem stAny {fb : List Nat} : Stable fb pAny := fun _ _ _ _ h => h
theorem stVal {fb : List Nat} (x : Value) : Stable fb (pVal x) := fun _ _ _ _ h => h
theorem stStr {fb : List Nat} (M : Nat) : Stable fb (pStr M) := fun _ _ _ _ h => h
theorem stInt {fb : List Nat} (n : Int) : Stable fb (pInt n) := fun _ _ _ _ h => h
theorem stLits {fb : List Nat} (n M : Nat) : Stable fb (pLits fb n M) := fun v w w' hk ⟨b, h1, h2, h3, h4⟩ =>
  ⟨b, h1, h2, Nat.lt_of_lt_of_le h3 hk.size, fun j hj => by
    obtain ⟨s, h5, h6⟩ := h4 j hj
    exact ⟨s, (hk.cell (p := ⟨b, j, none⟩) h3 h2).trans h5, h6⟩⟩
theorem stPtr {fb : List Nat} (M : Nat) : Stable fb (pPtr fb M) := fun v w w' hk ⟨b, j, s, h1, h2, h3, h4, h5⟩ =>
  ⟨b, j, s, h1, h2, Nat.lt_of_lt_of_le h3 hk.size, (hk.cell (p := ⟨b, j, none⟩) h3 h2).trans h4, h5⟩
theorem pLits_new (L : List ByteArray) (M : Nat) (fb : List Nat) (w : World) (hM : ∀ s ∈ L, s.size ≤ M) (hr : ∀ b ∈ fb, b < w.heap.size) (n : Nat) (hn : L.length = n) :
    pLits fb n M (.slice (some ⟨w.heap.size, 0, none⟩) n n) (w.alloc (.cells (L.map Value.string).toArray 9)) := by
  refine ⟨w.heap.size, rfl, fun h => by have := hr _ h; omega, by simp, fun j hj => ⟨L[j]'(by omega), ?_, hM _ (List.getElem_mem _)⟩⟩
  rw [World.cell?_alloc_at _ _ _ _ rfl]
  simp [List.getElem?_eq_getElem (show j < L.length by omega)]
theorem Kept.wide {rb : Nat} {fb : List Nat} {w w' : World} (hk : Kept [rb] w w') (h : rb ∈ fb) : Kept fb w w' := hk.mono fun x hx => by
  have : x = rb := by simpa using hx
  subst this; exact h

/-- The reader's state while a region runs. -/
def jRd (rb p0 : Nat) (w0 : World) (m : Nat) (w : World) : Prop := (∃ p, p ≤ p0 + m ∧ Rd w rb p) ∧ Kept [rb] w0 w
theorem jRd.same {rb p0 m : Nat} {w0 w : World} (h : jRd rb p0 w0 m w) : jRd rb p0 w0 (m + 1) w := by
  obtain ⟨⟨p, h1, h2⟩, h3⟩ := h
  exact ⟨⟨p, by omega, h2⟩, h3⟩
theorem jRd.alloc {rb p0 m : Nat} {w0 w : World} (h : jRd rb p0 w0 m w) (o : Obj) : jRd rb p0 w0 (m + 1) (w.alloc o) := by
  obtain ⟨⟨p, h1, h2⟩, h3⟩ := h
  have hb := (Below.refl w.heap.size w).alloc (Nat.le_refl _) o
  exact ⟨⟨p, by omega, h2.grow hb⟩, h3.trans (Kept.of_below hb)⟩
theorem jRd.lt {rb p0 m : Nat} {w0 w : World} (h : jRd rb p0 w0 m w) : rb < w.heap.size := by
  obtain ⟨⟨p, h1, h2⟩, h3⟩ := h
  exact h2.lt
theorem jRd.lts {rb p0 m : Nat} {w0 w : World} (h : jRd rb p0 w0 m w) : ∀ b ∈ [rb], b < w.heap.size := fun b hb => by
  have : b = rb := by simpa using hb
  subst this; exact h.lt
theorem jRd.start {rb p : Nat} {w : World} (h : Rd w rb p) : jRd rb p w 0 { w with drawn := w.drawn + 1 } :=
  ⟨⟨p, by omega, ⟨h.ex, h.hp⟩⟩, (Kept.refl [rb] w).drewN 1⟩
theorem At.mk {Ps : List (Value → World → Prop)} {i : Nat} {p : Value → World → Prop} {v : Value} {w : World} (h : Ps[i]? = some p) (hp : p v w) : At Ps i v w := by
  intro q hq
  rw [h] at hq
  cases hq
  exact hp

theorem jRd.le {rb p0 m m' : Nat} {w0 w : World} (h : jRd rb p0 w0 m w) (hm : m ≤ m') : jRd rb p0 w0 m' w := by
  obtain ⟨⟨p, h1, h2⟩, h3⟩ := h
  exact ⟨⟨p, by omega, h2⟩, h3⟩
theorem jRd.begin {rb p : Nat} {w : World} (h : Rd w rb p) : jRd rb p w 0 w := ⟨⟨p, by omega, h⟩, Kept.refl _ _⟩
theorem jRd.made {rb p0 m : Nat} {w0 w : World} (h : jRd rb p0 w0 m w) (o : Obj) : jRd rb p0 w0 m (w.alloc o) := by
  obtain ⟨⟨p, h1, h2⟩, h3⟩ := h
  have hb := (Below.refl w.heap.size w).alloc (Nat.le_refl _) o
  exact ⟨⟨p, h1, h2.grow hb⟩, h3.trans (Kept.of_below hb)⟩
theorem jRd.grown {rb p0 m : Nat} {w0 w w' : World} {ob : Option Nat} (h : jRd rb p0 w0 m w) (hg : w.grownBy w' ob) (hr : rb < w0.heap.size) (ho : ∀ b, ob = some b → w0.heap.size ≤ b) : jRd rb p0 w0 m w' := by
  obtain ⟨⟨p, h1, ⟨a, l, cap, fp, h2, h3, h4, h5⟩, h6⟩, h7⟩ := h
  have hs := h7.size
  have hblk : ∀ b, b ≤ rb → w'.heap[b]? = w.heap[b]? := fun b hb => hg.block b (by omega) (by intro he; have := ho b he.symm; omega)
  refine ⟨⟨p, h1, ⟨a, l, cap, fp, (hblk rb (Nat.le_refl _)).trans h2, (sSlice sByte).frame (fun b hb => hblk b (Nat.le_of_lt (h4 b hb))) h3, h4, h5⟩, h6⟩, ⟨hg.os.trans h7.os, hg.tape.trans h7.tape, hg.output.trans h7.output, Nat.le_trans h7.size hg.size, ?_⟩⟩
  intro k hk hn
  exact (hg.block k (by omega) (by intro he; have := ho k he.symm; omega)).trans (h7.block k hk hn)
theorem jRd.top {rb p0 m B : Nat} {w00 w0 w : World} (h : jRd rb p0 w0 m w) (hb : Below B w00 w0) (hr : B ≤ rb) (hs : B ≤ w0.heap.size) : Below B w00 w := kept_below hb h.2 hr hs
theorem own_kept {B e n rb : Nat} {v : Value} {xs : List Value} {w w' : World} (h : w.ownsRow B e 1 v n xs) (hk : Kept [rb] w w') (hr : rb < B) : w'.ownsRow B e 1 v n xs := by
  refine ⟨h.1, ?_⟩
  rcases h.2 with h0 | ⟨g, cap, cur, rfl, hb, hg, h1, h2, h3, h4⟩
  · exact .inl h0
  · exact .inr ⟨g, cap, cur, rfl, hb, (hk.block g (Array.getElem?_eq_some_iff.1 hg).1 (by simp; omega)).trans hg, h1, h2, h3, h4⟩

/-- The reader's next number. -/
theorem pickJ {rb p0 m : Nat} {w0 w : World} (n : Int) (h : jRd rb p0 w0 m w) (hp : p0 + m < 1000000) (hn : n ≤ 1000000) (hn1 : 1 ≤ n) :
    Calls Try.prog 43 #[.pointer (some ⟨rb, 0, none⟩), .int .i64 n] w fun e w' => ∃ r : Int, e = .returned (.int .i64 r) ∧ 0 ≤ r ∧ r < n ∧ jRd rb p0 w0 (m + 1) w' ∧ Kept [rb] w w' := by
  obtain ⟨⟨p, h1, h2⟩, h3⟩ := h
  refine (pick rb p n w h2 (by omega) hn (by omega)).mono ?_
  rintro e w' ⟨r, rfl, hr0, hr1, hR, hK⟩
  exact ⟨r, rfl, hr0, by omega, ⟨⟨p + 1, by omega, hR⟩, h3.trans hK⟩, hK⟩
theorem oddJ {rb p0 m : Nat} {w0 w : World} (n : Int) (h : jRd rb p0 w0 m w) (hp : p0 + m < 1000000) (hn : n ≤ 1000000) (hn0 : 0 ≤ n) :
    Calls Try.prog 40 #[.pointer (some ⟨rb, 0, none⟩), .int .i64 n] w fun e w' => ∃ b : Bool, e = .returned (.bool b) ∧ jRd rb p0 w0 (m + 1) w' ∧ Kept [rb] w w' := by
  obtain ⟨⟨p, h1, h2⟩, h3⟩ := h
  refine (odd rb p n w h2 (by omega) hn hn0).mono ?_
  rintro e w' ⟨b, q, rfl, hq1, hq2, hR, hK⟩
  exact ⟨b, rfl, ⟨⟨q, by omega, hR⟩, h3.trans hK⟩, hK⟩

/-- A reader and a row of texts of the call's own: as at first, or, behind all, with one of them turned. -/
def jOwn (rb p0 : Nat) (w0 : World) (B : Nat) (v : Value) (L : List ByteArray) (k N M : Nat) (m : Nat) (w : World) : Prop :=
  (∃ p, p ≤ p0 + m ∧ Rd w rb p) ∧ Below w0.heap.size w0 w ∧
    (w.ownsRow B 9 1 v L.length (L.map Value.string) ∨ m = N ∧ ∃ s : ByteArray, s.size ≤ M ∧ w.ownsRow B 9 1 v L.length ((L.set k s).map Value.string))
section
variable {rb p0 B k N M m : Nat} {w0 w w' : World} {v : Value} {L : List ByteArray}
theorem jOwn.row (h : jOwn rb p0 w0 B v L k N M m w) (hm : m < N) : w.ownsRow B 9 1 v L.length (L.map Value.string) := by
  rcases h.2.2 with h | ⟨h, _⟩
  · exact h
  · omega
theorem jOwn.same (h : jOwn rb p0 w0 B v L k N M m w) (hm : m < N) : jOwn rb p0 w0 B v L k N M (m + 1) w := by
  obtain ⟨p, h1, h2⟩ := h.1
  exact ⟨⟨p, by omega, h2⟩, h.2.1, .inl (h.row hm)⟩
theorem jOwn.alloc (h : jOwn rb p0 w0 B v L k N M m w) (hm : m < N) (o : Obj) : jOwn rb p0 w0 B v L k N M (m + 1) (w.alloc o) := by
  obtain ⟨p, h1, h2⟩ := h.1
  have hb := (Below.refl w.heap.size w).alloc (Nat.le_refl _) o
  exact ⟨⟨p, by omega, h2.grow hb⟩, h.2.1.alloc h.2.1.size o, .inl ((h.row hm).alloc o)⟩
theorem jOwn.pick (h : jOwn rb p0 w0 B v L k N M m w) (hm : m < N) {p : Nat} (hp : p ≤ p0 + m) (hR : Rd w' rb (p + 1)) (hk : Kept [rb] w w') (hrb : rb < B) (hr0 : w0.heap.size ≤ rb) : jOwn rb p0 w0 B v L k N M (m + 1) w' :=
  ⟨⟨p + 1, by omega, hR⟩, kept_below h.2.1 hk hr0 h.2.1.size, .inl (own_kept (h.row hm) hk hrb)⟩
theorem jOwn.lts {g cap n : Nat} (h : jOwn rb p0 w0 B (.slice (some ⟨g, 0, none⟩) n cap) L k N M m w) (hm : m < N) (hg : B ≤ g) : ∀ b ∈ [rb, g], b < w.heap.size := fun b hb => by
  obtain ⟨p, h1, h2⟩ := h.1
  rcases List.mem_cons.1 hb with rfl | hb
  · exact h2.lt
  · have : b = g := by simpa using hb
    subst this
    exact ((h.row hm).lt b rfl).2
theorem jOwn.start (h : jOwn rb p0 w0 B v L k N M 0 w) : jOwn rb p0 w0 B v L k N M 0 { w with drawn := w.drawn + 1 } := by
  obtain ⟨p, h1, h2⟩ := h.1
  exact ⟨⟨p, h1, ⟨h2.ex, h2.hp⟩⟩, h.2.1.drew, h.2.2⟩
theorem Rd.kept {rb p : Nat} {fp : List Nat} {w w' : World} (h : Rd w rb p) (hk : Kept fp w w') (hf : ∀ b ∈ fp, rb < b) : Rd w' rb p := by
  have hlt := h.lt
  obtain ⟨⟨a, l, cap, fq, h1, h2, h3, h4⟩, h5⟩ := h
  refine ⟨⟨a, l, cap, fq, (hk.block rb hlt (fun hx => by have := hf rb hx; omega)).trans h1, (sSlice sByte).kept h2 (fun b hb hx => by have := hf b hx; have := h3 b hb; omega) hk, h3, h4⟩, h5⟩
theorem jOwn.store {g cap n : Nat} {s : ByteArray} (h : jOwn rb p0 w0 B (.slice (some ⟨g, 0, none⟩) n cap) L k N M m w) (hm : m < N) (hN : m + 1 = N) (hs : s.size ≤ M) (hrb : rb < B) (hg : B ≤ g) (hw0 : w0.heap.size ≤ B) :
    jOwn rb p0 w0 B (.slice (some ⟨g, 0, none⟩) n cap) L k N M (m + 1) (w.setCell ⟨g, k, none⟩ (.string s)) := by
  obtain ⟨p, h1, h2⟩ := h.1
  have hrow := h.row hm
  have hn : L.length = n := by
    rcases hrow.2 with ⟨h', _⟩ | ⟨g', cap', cur, h', _⟩
    · cases h'
    · simp only [Value.slice.injEq] at h'; exact h'.2.1.symm
  subst hn
  have hk : Kept [g] w (w.setCell ⟨g, k, none⟩ (.string s)) := (Kept.refl _ _).setCell (by simp) _
  refine ⟨⟨p, by omega, h2.kept hk (fun b hb => by have e : b = g := (by simpa using hb); omega)⟩, h.2.1.trans (hk.below (fun b hb => by have e : b = g := (by simpa using hb); omega) h.2.1.size), .inr ⟨hN, s, hs, ?_⟩⟩
  have := (hrow.stored k (.string s)).1
  rw [List.map_set]
  exact this
end
theorem own_cell {w : World} {B g cap k n : Nat} {L : List ByteArray} (h : w.ownsRow B 9 1 (.slice (some ⟨g, 0, none⟩) n cap) L.length (L.map Value.string)) (hk : k < L.length) : w.cell? ⟨g, k, none⟩ = some (.string L[k]) := by
  have hn : L.length = n := by
    rcases h.2 with ⟨h', _⟩ | ⟨g', cap', cur, h', _⟩
    · cases h'
    · simp only [Value.slice.injEq] at h'; exact h'.2.1.symm
  subst hn
  rw [h.cellAt k (by omega)]
  simp [List.getElem?_eq_getElem hk]

end Go.Proofs.Ytkamfppefmpacaa
