/- What slots hold in regions that draw their order, beside a reader. -/
import Derived.Test.YtegpienbgmfghaaRegion
import Derived.Test.YtegpienbgmfghaaLens
import Derived.Test.YtegpienbgmfghaaDraw2
namespace Go.Proofs.Ytegpienbgmfghaa
open Go.RowKit

def StepsFrom (P : Program) (ops : Array Oper) (Rl : World → World → Prop) (Ps : List (Value → World → Prop)) (J : Nat → World → Prop) (a : Act) : Nat → List Oper → Prop
  | _, [] => True
  | i, o :: t => StepOk P ops Rl Ps J a i o ∧ StepsFrom P ops Rl Ps J a (i + 1) t
theorem steps_of {P : Program} {ops : Array Oper} {Rl : World → World → Prop} {Ps : List (Value → World → Prop)} {J : Nat → World → Prop} {a : Act} :
    ∀ (l : List Oper) (k : Nat), (∀ j, l[j]? = ops[k + j]?) → StepsFrom P ops Rl Ps J a k l → ∀ i o, k ≤ i → ops[i]? = some o → StepOk P ops Rl Ps J a i o := by
  intro l
  induction l with
  | nil =>
    intro k h _ i o hk hi
    have := h (i - k)
    rw [show k + (i - k) = i from by omega, hi] at this
    simp at this
  | cons x t ih =>
    intro k h hs i o hk hi
    by_cases e : i = k
    · subst e
      have h0 := h 0
      rw [Nat.add_zero, hi] at h0
      simp only [List.getElem?_cons_zero, Option.some.injEq] at h0
      subst h0
      exact hs.1
    · exact ih (k + 1) (fun j => by have := h (j + 1); rw [List.getElem?_cons_succ] at this; rw [this]; congr 1; omega) hs.2 i o (by omega) hi
theorem steps_all {P : Program} {ops : Array Oper} {Rl : World → World → Prop} {Ps : List (Value → World → Prop)} {J : Nat → World → Prop} {a : Act} (h : StepsFrom P ops Rl Ps J a 0 ops.toList) :
    ∀ i o, ops[i]? = some o → StepOk P ops Rl Ps J a i o := fun i o hi => steps_of ops.toList 0 (fun j => by simp) h i o (Nat.zero_le _) hi

def Stable (rb : Nat) (p : Value → World → Prop) : Prop := ∀ v w w', Kept [rb] w w' → p v w → p v w'
def StabAll (rb : Nat) : List (Value → World → Prop) → Prop
  | [] => True
  | p :: t => Stable rb p ∧ StabAll rb t
theorem stab_all {rb : Nat} : ∀ {Ps : List (Value → World → Prop)}, StabAll rb Ps → ∀ p ∈ Ps, ∀ v w w', Kept [rb] w w' → p v w → p v w'
  | [], _, p, hp => by cases hp
  | q :: t, h, p, hp => by
    rcases List.mem_cons.1 hp with rfl | hp
    · exact h.1
    · exact stab_all h.2 p hp

def pVal (x : Value) : Value → World → Prop := fun v _ => v = x
def pStr (M : Nat) : Value → World → Prop := fun v _ => ∃ s : ByteArray, v = .string s ∧ s.size ≤ M
def pInt (n : Int) : Value → World → Prop := fun v _ => ∃ r : Int, v = .int .i64 r ∧ 0 ≤ r ∧ r < n
def pLits (rb n M : Nat) : Value → World → Prop := fun v w => ∃ b, v = .slice (some ⟨b, 0, none⟩) n n ∧ b ≠ rb ∧ b < w.heap.size ∧ ∀ j, j < n → ∃ s : ByteArray, w.cell? ⟨b, j, none⟩ = some (.string s) ∧ s.size ≤ M
def pPtr (rb M : Nat) : Value → World → Prop := fun v w => ∃ (b j : Nat) (s : ByteArray), v = .pointer (some ⟨b, j, none⟩) ∧ b ≠ rb ∧ b < w.heap.size ∧ w.cell? ⟨b, j, none⟩ = some (.string s) ∧ s.size ≤ M
theorem stVal {rb : Nat} (x : Value) : Stable rb (pVal x) := fun _ _ _ _ h => h
theorem stStr {rb : Nat} (M : Nat) : Stable rb (pStr M) := fun _ _ _ _ h => h
theorem stInt {rb : Nat} (n : Int) : Stable rb (pInt n) := fun _ _ _ _ h => h
theorem stLits {rb : Nat} (n M : Nat) : Stable rb (pLits rb n M) := fun v w w' hk ⟨b, h1, h2, h3, h4⟩ =>
  ⟨b, h1, h2, Nat.lt_of_lt_of_le h3 hk.size, fun j hj => by
    obtain ⟨s, h5, h6⟩ := h4 j hj
    exact ⟨s, (hk.cell (p := ⟨b, j, none⟩) h3 (by simpa using h2)).trans h5, h6⟩⟩
theorem stPtr {rb : Nat} (M : Nat) : Stable rb (pPtr rb M) := fun v w w' hk ⟨b, j, s, h1, h2, h3, h4, h5⟩ =>
  ⟨b, j, s, h1, h2, Nat.lt_of_lt_of_le h3 hk.size, (hk.cell (p := ⟨b, j, none⟩) h3 (by simpa using h2)).trans h4, h5⟩
theorem pLits_new (L : List ByteArray) (M rb : Nat) (w : World) (hM : ∀ s ∈ L, s.size ≤ M) (hr : rb < w.heap.size) (n : Nat) (hn : L.length = n) :
    pLits rb n M (.slice (some ⟨w.heap.size, 0, none⟩) n n) (w.alloc (.cells (L.map Value.string).toArray 9)) := by
  refine ⟨w.heap.size, rfl, by omega, by simp, fun j hj => ⟨L[j]'(by omega), ?_, hM _ (List.getElem_mem _)⟩⟩
  rw [World.cell?_alloc_at _ _ _ _ rfl]
  simp [List.getElem?_eq_getElem (show j < L.length by omega)]

/-- The reader's state while a region runs. -/
def jRd (rb p0 : Nat) (w0 : World) (m : Nat) (w : World) : Prop := (∃ p, p ≤ p0 + m ∧ Rd w rb p) ∧ Kept [rb] w0 w
theorem jRd.same {rb p0 m : Nat} {w0 w : World} (h : jRd rb p0 w0 m w) : jRd rb p0 w0 (m + 1) w := by
  obtain ⟨⟨p, h1, h2⟩, h3⟩ := h
  exact ⟨⟨p, by omega, h2⟩, h3⟩
theorem jRd.alloc {rb p0 m : Nat} {w0 w : World} (h : jRd rb p0 w0 m w) (o : Obj) : jRd rb p0 w0 (m + 1) (w.alloc o) := by
  obtain ⟨⟨p, h1, h2⟩, h3⟩ := h
  have hb := (Below.refl w.heap.size w).alloc (Nat.le_refl _) o
  exact ⟨⟨p, by omega, h2.grow hb⟩, h3.trans (Kept.of_below hb)⟩
theorem jRd.lt {rb p0 m : Nat} {w0 w : World} (h : jRd rb p0 w0 m w) : rb < w.heap.size := by
  obtain ⟨⟨p, h1, h2⟩, h3⟩ := h
  exact h2.lt
theorem jRd.start {rb p : Nat} {w : World} (h : Rd w rb p) : jRd rb p w 0 { w with drawn := w.drawn + 1 } :=
  ⟨⟨p, by omega, ⟨h.ex, h.hp⟩⟩, (Kept.refl [rb] w).drewN 1⟩
theorem At.mk {Ps : List (Value → World → Prop)} {i : Nat} {p : Value → World → Prop} {v : Value} {w : World} (h : Ps[i]? = some p) (hp : p v w) : At Ps i v w := by
  intro q hq
  rw [h] at hq
  cases hq
  exact hp

theorem jRd.le {rb p0 m m' : Nat} {w0 w : World} (h : jRd rb p0 w0 m w) (hm : m ≤ m') : jRd rb p0 w0 m' w := by
  obtain ⟨⟨p, h1, h2⟩, h3⟩ := h
  exact ⟨⟨p, by omega, h2⟩, h3⟩
theorem jRd.begin {rb p : Nat} {w : World} (h : Rd w rb p) : jRd rb p w 0 w := ⟨⟨p, by omega, h⟩, Kept.refl _ _⟩
theorem jRd.made {rb p0 m : Nat} {w0 w : World} (h : jRd rb p0 w0 m w) (o : Obj) : jRd rb p0 w0 m (w.alloc o) := by
  obtain ⟨⟨p, h1, h2⟩, h3⟩ := h
  have hb := (Below.refl w.heap.size w).alloc (Nat.le_refl _) o
  exact ⟨⟨p, h1, h2.grow hb⟩, h3.trans (Kept.of_below hb)⟩
theorem jRd.grown {rb p0 m : Nat} {w0 w w' : World} {ob : Option Nat} (h : jRd rb p0 w0 m w) (hg : w.grownBy w' ob) (hr : rb < w0.heap.size) (ho : ∀ b, ob = some b → w0.heap.size ≤ b) : jRd rb p0 w0 m w' := by
  obtain ⟨⟨p, h1, ⟨a, l, cap, fp, h2, h3, h4, h5⟩, h6⟩, h7⟩ := h
  have hs := h7.size
  have hblk : ∀ b, b ≤ rb → w'.heap[b]? = w.heap[b]? := fun b hb => hg.block b (by omega) (by intro he; have := ho b he.symm; omega)
  refine ⟨⟨p, h1, ⟨a, l, cap, fp, (hblk rb (Nat.le_refl _)).trans h2, (sSlice sByte).frame (fun b hb => hblk b (Nat.le_of_lt (h4 b hb))) h3, h4, h5⟩, h6⟩, ⟨hg.os.trans h7.os, hg.tape.trans h7.tape, hg.output.trans h7.output, Nat.le_trans h7.size hg.size, ?_⟩⟩
  intro k hk hn
  exact (hg.block k (by omega) (by intro he; have := ho k he.symm; omega)).trans (h7.block k hk hn)
theorem jRd.top {rb p0 m B : Nat} {w00 w0 w : World} (h : jRd rb p0 w0 m w) (hb : Below B w00 w0) (hr : B ≤ rb) (hs : B ≤ w0.heap.size) : Below B w00 w := kept_below hb h.2 hr hs
theorem own_kept {B e n rb : Nat} {v : Value} {xs : List Value} {w w' : World} (h : w.ownsRow B e 1 v n xs) (hk : Kept [rb] w w') (hr : rb < B) : w'.ownsRow B e 1 v n xs := by
  refine ⟨h.1, ?_⟩
  rcases h.2 with h0 | ⟨g, cap, cur, rfl, hb, hg, h1, h2, h3, h4⟩
  · exact .inl h0
  · exact .inr ⟨g, cap, cur, rfl, hb, (hk.block g (Array.getElem?_eq_some_iff.1 hg).1 (by simp; omega)).trans hg, h1, h2, h3, h4⟩

/-- The reader's next number. -/
theorem pickJ {rb p0 m : Nat} {w0 w : World} (n : Int) (h : jRd rb p0 w0 m w) (hp : p0 + m < 1000000) (hn : n ≤ 1000000) (hn1 : 1 ≤ n) :
    Calls Try.prog 27 #[.pointer (some ⟨rb, 0, none⟩), .int .i64 n] w fun e w' => ∃ r : Int, e = .returned (.int .i64 r) ∧ 0 ≤ r ∧ r < n ∧ jRd rb p0 w0 (m + 1) w' ∧ Kept [rb] w w' := by
  obtain ⟨⟨p, h1, h2⟩, h3⟩ := h
  refine (pick rb p n w h2 (by omega) hn (by omega)).mono ?_
  rintro e w' ⟨r, rfl, hr0, hr1, hR, hK⟩
  exact ⟨r, rfl, hr0, by omega, ⟨⟨p + 1, by omega, hR⟩, h3.trans hK⟩, hK⟩
theorem oddJ {rb p0 m : Nat} {w0 w : World} (n : Int) (h : jRd rb p0 w0 m w) (hp : p0 + m < 1000000) (hn : n ≤ 1000000) (hn0 : 0 ≤ n) :
    Calls Try.prog 24 #[.pointer (some ⟨rb, 0, none⟩), .int .i64 n] w fun e w' => ∃ b : Bool, e = .returned (.bool b) ∧ jRd rb p0 w0 (m + 1) w' ∧ Kept [rb] w w' := by
  obtain ⟨⟨p, h1, h2⟩, h3⟩ := h
  refine (odd rb p n w h2 (by omega) hn hn0).mono ?_
  rintro e w' ⟨b, q, rfl, hq1, hq2, hR, hK⟩
  exact ⟨b, rfl, ⟨⟨q, by omega, hR⟩, h3.trans hK⟩, hK⟩

end Go.Proofs.Ytegpienbgmfghaa
