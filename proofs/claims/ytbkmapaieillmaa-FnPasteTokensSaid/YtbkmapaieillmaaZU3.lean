/- Texts that the proof of U stands on, in one file. -/
import Derived.Test.YtbkmapaieillmaaZU2
import Derived.Test.YtbkmapaieillmaaZU1
import Derived.Lib.AppendStr
import Derived.Laws.IdiomStrings
import Derived.Lib.Index
import Derived.Lib.Strings
import Derived.Laws.Cover1
import Derived.Outline
import Derived.Deep.Fields
import Derived.ChangeSame
import Derived.Lib.SmallJoins
import Derived.Deep.RegionHeld3
import Derived.Deep.QuietTactic
import Derived.BigQuiet
import Derived.StillTailTactics
set_option linter.unusedVariables false
set_option linter.unusedSimpArgs false
/- What slots hold in regions that draw their order, beside a reader. -/
namespace Go.Proofs.Ytbkmapaieillmaa
open Go.RowKit

def StepsFrom (P : Program) (ops : Array Oper) (Rl : World → World → Prop) (Ps : List (Value → World → Prop)) (J : Nat → World → Prop) (a : Act) : Nat → List Oper → Prop
  | _, [] => True
  | i, o :: t => StepOk P ops Rl Ps J a i o ∧ StepsFrom P ops Rl Ps J a (i + 1) t
theorem steps_of {P : Program} {ops : Array Oper} {Rl : World → World → Prop} {Ps : List (Value → World → Prop)} {J : Nat → World → Prop} {a : Act} :
    ∀ (l : List Oper) (k : Nat), (∀ j, l[j]? = ops[k + j]?) → StepsFrom P ops Rl Ps J a k l → ∀ i o, k ≤ i → ops[i]? = some o → StepOk P ops Rl Ps J a i o := by
  intro l
  induction l with
  | nil =>
    intro k h _ i o hk hi
    have := h (i - k)
    rw [show k + (i - k) = i from by omega, hi] at this
    simp at this
  | cons x t ih =>
    intro k h hs i o hk hi
    by_cases e : i = k
    · subst e
      have h0 := h 0
      rw [Nat.add_zero, hi] at h0
      simp only [List.getElem?_cons_zero, Option.some.injEq] at h0
      subst h0
      exact hs.1
    · exact ih (k + 1) (fun j => by have := h (j + 1); rw [List.getElem?_cons_succ] at this; rw [this]; congr 1; omega) hs.2 i o (by omega) hi
theorem steps_all {P : Program} {ops : Array Oper} {Rl : World → World → Prop} {Ps : List (Value → World → Prop)} {J : Nat → World → Prop} {a : Act} (h : StepsFrom P ops Rl Ps J a 0 ops.toList) :
    ∀ i o, ops[i]? = some o → StepOk P ops Rl Ps J a i o := fun i o hi => steps_of ops.toList 0 (fun j => by simp) h i o (Nat.zero_le _) hi

def Stable (fb : List Nat) (p : Value → World → Prop) : Prop := ∀ v w w', Kept fb w w' → p v w → p v w'
def StabAll (fb : List Nat) : List (Value → World → Prop) → Prop
  | [] => True
  | p :: t => Stable fb p ∧ StabAll fb t
theorem stab_all {fb : List Nat} : ∀ {Ps : List (Value → World → Prop)}, StabAll fb Ps → ∀ p ∈ Ps, ∀ v w w', Kept fb w w' → p v w → p v w'
  | [], _, p, hp => by cases hp
  | q :: t, h, p, hp => by
    rcases List.mem_cons.1 hp with rfl | hp
    · exact h.1
    · exact stab_all h.2 p hp

def pAny : Value → World → Prop := fun _ _ => True
def pVal (x : Value) : Value → World → Prop := fun v _ => v = x
def pStr (M : Nat) : Value → World → Prop := fun v _ => ∃ s : ByteArray, v = .string s ∧ s.size ≤ M
def pInt (n : Int) : Value → World → Prop := fun v _ => ∃ r : Int, v = .int .i64 r ∧ 0 ≤ r ∧ r < n
def pLits (fb : List Nat) (n M : Nat) : Value → World → Prop := fun v w => ∃ b, v = .slice (some ⟨b, 0, none⟩) n n ∧ b ∉ fb ∧ b < w.heap.size ∧ ∀ j, j < n → ∃ s : ByteArray, w.cell? ⟨b, j, none⟩ = some (.string s) ∧ s.size ≤ M
def pPtr (fb : List Nat) (M : Nat) : Value → World → Prop := fun v w => ∃ (b j : Nat) (s : ByteArray), v = .pointer (some ⟨b, j, none⟩) ∧ b ∉ fb ∧ b < w.heap.size ∧ w.cell? ⟨b, j, none⟩ = some (.string s) ∧ s.size ≤ M
theorem stAny {fb : List Nat} : Stable fb pAny := fun _ _ _ _ h => h
theorem stVal {fb : List Nat} (x : Value) : Stable fb (pVal x) := fun _ _ _ _ h => h
theorem stStr {fb : List Nat} (M : Nat) : Stable fb (pStr M) := fun _ _ _ _ h => h
theorem stInt {fb : List Nat} (n : Int) : Stable fb (pInt n) := fun _ _ _ _ h => h
theorem stLits {fb : List Nat} (n M : Nat) : Stable fb (pLits fb n M) := fun v w w' hk ⟨b, h1, h2, h3, h4⟩ =>
  ⟨b, h1, h2, Nat.lt_of_lt_of_le h3 hk.size, fun j hj => by
    obtain ⟨s, h5, h6⟩ := h4 j hj
    exact ⟨s, (hk.cell (p := ⟨b, j, none⟩) h3 h2).trans h5, h6⟩⟩
theorem stPtr {fb : List Nat} (M : Nat) : Stable fb (pPtr fb M) := fun v w w' hk ⟨b, j, s, h1, h2, h3, h4, h5⟩ =>
  ⟨b, j, s, h1, h2, Nat.lt_of_lt_of_le h3 hk.size, (hk.cell (p := ⟨b, j, none⟩) h3 h2).trans h4, h5⟩
theorem pLits_new (L : List ByteArray) (M : Nat) (fb : List Nat) (w : World) (hM : ∀ s ∈ L, s.size ≤ M) (hr : ∀ b ∈ fb, b < w.heap.size) (n : Nat) (hn : L.length = n) :
    pLits fb n M (.slice (some ⟨w.heap.size, 0, none⟩) n n) (w.alloc (.cells (L.map Value.string).toArray 9)) := by
  refine ⟨w.heap.size, rfl, fun h => by have := hr _ h; omega, by simp, fun j hj => ⟨L[j]'(by omega), ?_, hM _ (List.getElem_mem _)⟩⟩
  rw [World.cell?_alloc_at _ _ _ _ rfl]
  simp [List.getElem?_eq_getElem (show j < L.length by omega)]
theorem Kept.wide {rb : Nat} {fb : List Nat} {w w' : World} (hk : Kept [rb] w w') (h : rb ∈ fb) : Kept fb w w' := hk.mono fun x hx => by
  have : x = rb := by simpa using hx
  subst this; exact h

/-- The reader's state while a region runs. -/
def jRd (rb p0 : Nat) (w0 : World) (m : Nat) (w : World) : Prop := (∃ p, p ≤ p0 + m ∧ Rd w rb p) ∧ Kept [rb] w0 w
theorem jRd.same {rb p0 m : Nat} {w0 w : World} (h : jRd rb p0 w0 m w) : jRd rb p0 w0 (m + 1) w := by
  obtain ⟨⟨p, h1, h2⟩, h3⟩ := h
  exact ⟨⟨p, by omega, h2⟩, h3⟩
theorem jRd.alloc {rb p0 m : Nat} {w0 w : World} (h : jRd rb p0 w0 m w) (o : Obj) : jRd rb p0 w0 (m + 1) (w.alloc o) := by
  obtain ⟨⟨p, h1, h2⟩, h3⟩ := h
  have hb := (Below.refl w.heap.size w).alloc (Nat.le_refl _) o
  exact ⟨⟨p, by omega, h2.grow hb⟩, h3.trans (Kept.of_below hb)⟩
theorem jRd.lt {rb p0 m : Nat} {w0 w : World} (h : jRd rb p0 w0 m w) : rb < w.heap.size := by
  obtain ⟨⟨p, h1, h2⟩, h3⟩ := h
  exact h2.lt
theorem jRd.lts {rb p0 m : Nat} {w0 w : World} (h : jRd rb p0 w0 m w) : ∀ b ∈ [rb], b < w.heap.size := fun b hb => by
  have : b = rb := by simpa using hb
  subst this; exact h.lt
theorem jRd.start {rb p : Nat} {w : World} (h : Rd w rb p) : jRd rb p w 0 { w with drawn := w.drawn + 1 } :=
  ⟨⟨p, by omega, ⟨h.ex, h.hp⟩⟩, (Kept.refl [rb] w).drewN 1⟩
theorem At.mk {Ps : List (Value → World → Prop)} {i : Nat} {p : Value → World → Prop} {v : Value} {w : World} (h : Ps[i]? = some p) (hp : p v w) : At Ps i v w := by
  intro q hq
  rw [h] at hq
  cases hq
  exact hp

theorem jRd.le {rb p0 m m' : Nat} {w0 w : World} (h : jRd rb p0 w0 m w) (hm : m ≤ m') : jRd rb p0 w0 m' w := by
  obtain ⟨⟨p, h1, h2⟩, h3⟩ := h
  exact ⟨⟨p, by omega, h2⟩, h3⟩
theorem jRd.begin {rb p : Nat} {w : World} (h : Rd w rb p) : jRd rb p w 0 w := ⟨⟨p, by omega, h⟩, Kept.refl _ _⟩
theorem jRd.made {rb p0 m : Nat} {w0 w : World} (h : jRd rb p0 w0 m w) (o : Obj) : jRd rb p0 w0 m (w.alloc o) := by
  obtain ⟨⟨p, h1, h2⟩, h3⟩ := h
  have hb := (Below.refl w.heap.size w).alloc (Nat.le_refl _) o
  exact ⟨⟨p, h1, h2.grow hb⟩, h3.trans (Kept.of_below hb)⟩
theorem jRd.grown {rb p0 m : Nat} {w0 w w' : World} {ob : Option Nat} (h : jRd rb p0 w0 m w) (hg : w.grownBy w' ob) (hr : rb < w0.heap.size) (ho : ∀ b, ob = some b → w0.heap.size ≤ b) : jRd rb p0 w0 m w' := by
  obtain ⟨⟨p, h1, ⟨a, l, cap, fp, h2, h3, h4, h5⟩, h6⟩, h7⟩ := h
  have hs := h7.size
  have hblk : ∀ b, b ≤ rb → w'.heap[b]? = w.heap[b]? := fun b hb => hg.block b (by omega) (by intro he; have := ho b he.symm; omega)
  refine ⟨⟨p, h1, ⟨a, l, cap, fp, (hblk rb (Nat.le_refl _)).trans h2, (sSlice sByte).frame (fun b hb => hblk b (Nat.le_of_lt (h4 b hb))) h3, h4, h5⟩, h6⟩, ⟨hg.os.trans h7.os, hg.tape.trans h7.tape, hg.output.trans h7.output, Nat.le_trans h7.size hg.size, ?_⟩⟩
  intro k hk hn
  exact (hg.block k (by omega) (by intro he; have := ho k he.symm; omega)).trans (h7.block k hk hn)
theorem jRd.top {rb p0 m B : Nat} {w00 w0 w : World} (h : jRd rb p0 w0 m w) (hb : Below B w00 w0) (hr : B ≤ rb) (hs : B ≤ w0.heap.size) : Below B w00 w := kept_below hb h.2 hr hs
theorem own_kept {B e n rb : Nat} {v : Value} {xs : List Value} {w w' : World} (h : w.ownsRow B e 1 v n xs) (hk : Kept [rb] w w') (hr : rb < B) : w'.ownsRow B e 1 v n xs := by
  refine ⟨h.1, ?_⟩
  rcases h.2 with h0 | ⟨g, cap, cur, rfl, hb, hg, h1, h2, h3, h4⟩
  · exact .inl h0
  · exact .inr ⟨g, cap, cur, rfl, hb, (hk.block g (Array.getElem?_eq_some_iff.1 hg).1 (by simp; omega)).trans hg, h1, h2, h3, h4⟩

/-- The reader's next number. -/
theorem pickJ {rb p0 m : Nat} {w0 w : World} (n : Int) (h : jRd rb p0 w0 m w) (hp : p0 + m < 1000000) (hn : n ≤ 1000000) (hn1 : 1 ≤ n) :
    Calls Try.prog 30 #[.pointer (some ⟨rb, 0, none⟩), .int .i64 n] w fun e w' => ∃ r : Int, e = .returned (.int .i64 r) ∧ 0 ≤ r ∧ r < n ∧ jRd rb p0 w0 (m + 1) w' ∧ Kept [rb] w w' := by
  obtain ⟨⟨p, h1, h2⟩, h3⟩ := h
  refine (pick rb p n w h2 (by omega) hn (by omega)).mono ?_
  rintro e w' ⟨r, rfl, hr0, hr1, hR, hK⟩
  exact ⟨r, rfl, hr0, by omega, ⟨⟨p + 1, by omega, hR⟩, h3.trans hK⟩, hK⟩
theorem oddJ {rb p0 m : Nat} {w0 w : World} (n : Int) (h : jRd rb p0 w0 m w) (hp : p0 + m < 1000000) (hn : n ≤ 1000000) (hn0 : 0 ≤ n) :
    Calls Try.prog 54 #[.pointer (some ⟨rb, 0, none⟩), .int .i64 n] w fun e w' => ∃ b : Bool, e = .returned (.bool b) ∧ jRd rb p0 w0 (m + 1) w' ∧ Kept [rb] w w' := by
  obtain ⟨⟨p, h1, h2⟩, h3⟩ := h
  refine (odd rb p n w h2 (by omega) hn hn0).mono ?_
  rintro e w' ⟨b, q, rfl, hq1, hq2, hR, hK⟩
  exact ⟨b, rfl, ⟨⟨q, by omega, hR⟩, h3.trans hK⟩, hK⟩

/-- A reader and a row of texts of the call's own: as at first, or, behind all, with one of them turned. -/
def jOwn (rb p0 : Nat) (w0 : World) (B : Nat) (v : Value) (L : List ByteArray) (k N M : Nat) (m : Nat) (w : World) : Prop :=
  (∃ p, p ≤ p0 + m ∧ Rd w rb p) ∧ Below w0.heap.size w0 w ∧
    (w.ownsRow B 9 1 v L.length (L.map Value.string) ∨ m = N ∧ ∃ s : ByteArray, s.size ≤ M ∧ w.ownsRow B 9 1 v L.length ((L.set k s).map Value.string))
section
variable {rb p0 B k N M m : Nat} {w0 w w' : World} {v : Value} {L : List ByteArray}
theorem jOwn.row (h : jOwn rb p0 w0 B v L k N M m w) (hm : m < N) : w.ownsRow B 9 1 v L.length (L.map Value.string) := by
  rcases h.2.2 with h | ⟨h, _⟩
  · exact h
  · omega
theorem jOwn.same (h : jOwn rb p0 w0 B v L k N M m w) (hm : m < N) : jOwn rb p0 w0 B v L k N M (m + 1) w := by
  obtain ⟨p, h1, h2⟩ := h.1
  exact ⟨⟨p, by omega, h2⟩, h.2.1, .inl (h.row hm)⟩
theorem jOwn.alloc (h : jOwn rb p0 w0 B v L k N M m w) (hm : m < N) (o : Obj) : jOwn rb p0 w0 B v L k N M (m + 1) (w.alloc o) := by
  obtain ⟨p, h1, h2⟩ := h.1
  have hb := (Below.refl w.heap.size w).alloc (Nat.le_refl _) o
  exact ⟨⟨p, by omega, h2.grow hb⟩, h.2.1.alloc h.2.1.size o, .inl ((h.row hm).alloc o)⟩
theorem jOwn.pick (h : jOwn rb p0 w0 B v L k N M m w) (hm : m < N) {p : Nat} (hp : p ≤ p0 + m) (hR : Rd w' rb (p + 1)) (hk : Kept [rb] w w') (hrb : rb < B) (hr0 : w0.heap.size ≤ rb) : jOwn rb p0 w0 B v L k N M (m + 1) w' :=
  ⟨⟨p + 1, by omega, hR⟩, kept_below h.2.1 hk hr0 h.2.1.size, .inl (own_kept (h.row hm) hk hrb)⟩
theorem jOwn.lts {g cap n : Nat} (h : jOwn rb p0 w0 B (.slice (some ⟨g, 0, none⟩) n cap) L k N M m w) (hm : m < N) (hg : B ≤ g) : ∀ b ∈ [rb, g], b < w.heap.size := fun b hb => by
  obtain ⟨p, h1, h2⟩ := h.1
  rcases List.mem_cons.1 hb with rfl | hb
  · exact h2.lt
  · have : b = g := by simpa using hb
    subst this
    exact ((h.row hm).lt b rfl).2
theorem jOwn.start (h : jOwn rb p0 w0 B v L k N M 0 w) : jOwn rb p0 w0 B v L k N M 0 { w with drawn := w.drawn + 1 } := by
  obtain ⟨p, h1, h2⟩ := h.1
  exact ⟨⟨p, h1, ⟨h2.ex, h2.hp⟩⟩, h.2.1.drew, h.2.2⟩
theorem Rd.kept {rb p : Nat} {fp : List Nat} {w w' : World} (h : Rd w rb p) (hk : Kept fp w w') (hf : ∀ b ∈ fp, rb < b) : Rd w' rb p := by
  have hlt := h.lt
  obtain ⟨⟨a, l, cap, fq, h1, h2, h3, h4⟩, h5⟩ := h
  refine ⟨⟨a, l, cap, fq, (hk.block rb hlt (fun hx => by have := hf rb hx; omega)).trans h1, (sSlice sByte).kept h2 (fun b hb hx => by have := hf b hx; have := h3 b hb; omega) hk, h3, h4⟩, h5⟩
theorem jOwn.store {g cap n : Nat} {s : ByteArray} (h : jOwn rb p0 w0 B (.slice (some ⟨g, 0, none⟩) n cap) L k N M m w) (hm : m < N) (hN : m + 1 = N) (hs : s.size ≤ M) (hrb : rb < B) (hg : B ≤ g) (hw0 : w0.heap.size ≤ B) :
    jOwn rb p0 w0 B (.slice (some ⟨g, 0, none⟩) n cap) L k N M (m + 1) (w.setCell ⟨g, k, none⟩ (.string s)) := by
  obtain ⟨p, h1, h2⟩ := h.1
  have hrow := h.row hm
  have hn : L.length = n := by
    rcases hrow.2 with ⟨h', _⟩ | ⟨g', cap', cur, h', _⟩
    · cases h'
    · simp only [Value.slice.injEq] at h'; exact h'.2.1.symm
  subst hn
  have hk : Kept [g] w (w.setCell ⟨g, k, none⟩ (.string s)) := (Kept.refl _ _).setCell (by simp) _
  refine ⟨⟨p, by omega, h2.kept hk (fun b hb => by have e : b = g := (by simpa using hb); omega)⟩, h.2.1.trans (hk.below (fun b hb => by have e : b = g := (by simpa using hb); omega) h.2.1.size), .inr ⟨hN, s, hs, ?_⟩⟩
  have := (hrow.stored k (.string s)).1
  rw [List.map_set]
  exact this
end
theorem own_cell {w : World} {B g cap k n : Nat} {L : List ByteArray} (h : w.ownsRow B 9 1 (.slice (some ⟨g, 0, none⟩) n cap) L.length (L.map Value.string)) (hk : k < L.length) : w.cell? ⟨g, k, none⟩ = some (.string L[k]) := by
  have hn : L.length = n := by
    rcases h.2 with ⟨h', _⟩ | ⟨g', cap', cur, h', _⟩
    · cases h'
    · simp only [Value.slice.injEq] at h'; exact h'.2.1.symm
  subst hn
  rw [h.cellAt k (by omega)]
  simp [List.getElem?_eq_getElem hk]

end Go.Proofs.Ytbkmapaieillmaa

/- Rows of bytes of the call's own. -/
namespace Go.Proofs.Ytbkmapaieillmaa
open Go.RowKit

theorem ti_bytes : TI Try.prog 22 5 (.int .u8 0) 1 1 := ⟨by kernel_rfl, by kernel_rfl⟩
def Bytes (base : Nat) (v : Value) (s : ByteArray) (w : World) : Prop := w.ownsRow base 5 1 v s.size (Lib.strCells s)
theorem strCells_append (a b : ByteArray) : Lib.strCells (a ++ b) = Lib.strCells a ++ Lib.strCells b := by
  simp [Lib.strCells, ByteArray.data_append]
theorem Bytes.none (base : Nat) (w : World) : Bytes base (.slice Option.none 0 0) ⟨#[]⟩ w := World.ownsRow_nil _ _ _ _
theorem Bytes.drew {base : Nat} {v : Value} {s : ByteArray} {w : World} (h : Bytes base v s w) (n : Nat) : Bytes base v s (w.drewN n) := h
/-- append(b, text...) -/
theorem wp_append_str {w0 : World} {ops : Array Oper} {rest : List Oper} {o : Oper} {a : Act} {Q : Exit → Act → World → Prop} (hg : o.guard = Option.none) (s y : Operand)
    (ho : o.op = .call { callee := .builtin .append, args := #[s, y], argTypes := #[22, 9] })
    (base : Nat) (v : Value) (x b : ByteArray) (hs : a.eval s = v) (hown : Bytes base v x w0) (hy : a.eval y = .string b) (h63 : x.size + b.size ≤ 1000000) (hbase : base ≤ w0.heap.size)
    (h : ∀ v' w', Bytes base v' (x ++ b) w' → w0.grownBy w' v.ownBlock → wpList Try.prog ops Q rest (a.put o.dst v') w') : wpList Try.prog ops Q (o :: rest) a w0 := by
  obtain ⟨i, hi, hz0, hz1, hz2⟩ := info_parts ti_bytes.2
  refine Lib.wpList_append_own_string w0 hg s y 22 9 ho base 5 i ti_bytes.1 Try.underlying9 hi hz0 hz1 hz2 v x.size (Lib.strCells x) hs hown b hy (by unfold maxLen; omega) (by omega) hbase fun v' w' h1 h2 _ => h v' w' ?_ h2
  unfold Bytes
  rw [strCells_append, ByteArray.size_append]
  exact h1
/-- append(b, c) -/
theorem wp_append_byte {w0 : World} {ops : Array Oper} {rest : List Oper} {o : Oper} {a : Act} {Q : Exit → Act → World → Prop} (hg : o.guard = Option.none) (s y : Operand)
    (ho : o.op = .call { callee := .builtin .append, args := #[s, y], argTypes := #[22, 22] })
    (base : Nat) (v : Value) (x b : ByteArray) (c : Int) (hs : a.eval s = v) (hown : Bytes base v x w0) (hy : a.eval y = .slice (some ⟨w0.heap.size, 0, Option.none⟩) 1 1) (hb : Lib.strCells b = [.int .u8 c]) (h63 : x.size ≤ 1000000) (hbase : base ≤ w0.heap.size)
    (h : ∀ v' w', Bytes base v' (x ++ b) w' → w0.grownBy w' v.ownBlock → wpList Try.prog ops Q rest (a.put o.dst v') w') : wpList Try.prog ops Q (o :: rest) a (w0.alloc (.cells #[.int .u8 c] 5)) := by
  have hb1 : b.size = 1 := by have := congrArg List.length hb; rwa [Lib.strCells_length] at this
  refine wp_append_one ti_bytes rfl w0 (.int .u8 c) rfl hg s y ho base v x.size (Lib.strCells x) hs hown hy (by unfold maxLen; omega) (by omega) hbase fun v' w' h1 h2 => h v' w' ?_ h2
  unfold Bytes
  rw [strCells_append, ByteArray.size_append, hb, hb1]
  exact h1
theorem strCells_at (s : ByteArray) (k : Nat) (h : k < s.size) : Lib.strCells (s.extract k (k + 1)) = [.int .u8 (s[k].toNat : Int)] := by
  have e : s.data.toList.length = s.size := Array.length_toList
  unfold Lib.strCells
  rw [ByteArray.data_extract, Array.toList_extract, List.extract_eq_take_drop, List.drop_eq_getElem_cons (by omega), show k + 1 - k = 1 from by omega]
  simp [ByteArray.getElem_eq_getElem_data]
/-- string(b) -/
theorem run_own_string {base : Nat} {v : Value} {s : ByteArray} {w : World} (h : Bytes base v s w) : (convert 22 9 v).run Try.prog w = .ok (.string s) w := by
  rcases h.2 with ⟨rfl, h0⟩ | ⟨g, cap, cur, rfl, hb, hg, hnc, hcm, hcs, htake⟩
  · rw [run_convert_bytes_string _ _ _ 5 _ 0 0 Try.underlying22 Try.underlying5 Try.underlying9]
    have : s = ⟨#[]⟩ := by apply Go.WideShapes.bytes_inj; rw [← List.length_eq_zero_iff, Array.length_toList]; exact h0
    subst this
    simp [Conv.bytesToString, loadCells]
    rfl
  · have hl : s.data.toList.length = s.size := Array.length_toList
    have := run_convert_bytes_back (P := Try.prog) w 22 9 5 ⟨g, 0, Option.none⟩ cap s.data.toList Try.underlying22 Try.underlying5 Try.underlying9 (fun j hj => by
      have h1 := h.cellAt j (by omega)
      have h2 : (Lib.strCells s)[j]? = some (.int .u8 (s.data.toList[j].toNat : Int)) := by simp [Lib.strCells, List.getElem?_eq_getElem hj]
      rw [Addr.add_lit, Nat.zero_add]
      exact h1.trans h2)
    rw [hl] at this
    simpa using this

/-- make([]byte, n), as bytes. -/
theorem zeros_own {base : Nat} {v : Value} {n : Nat} {w : World} (h : w.ownsRow base 5 1 v n (madeCells (Value.int .u8 0).cells (n * 1)).toList) : Bytes base v ⟨Array.replicate n 0⟩ w := by
  unfold Bytes
  have e1 : (⟨Array.replicate n 0⟩ : ByteArray).size = n := by show (Array.replicate n (0 : UInt8)).size = n; simp
  have e2 : Lib.strCells ⟨Array.replicate n 0⟩ = (madeCells (Value.int .u8 0).cells (n * 1)).toList := by
    simp [Value.cells, toList_madeCells_one, Lib.strCells]
  rw [e1, e2]
  exact h

end Go.Proofs.Ytbkmapaieillmaa

/- The drawing of a line. -/
namespace Go.Proofs.Ytbkmapaieillmaa
open Go.RowKit

/-- A text of at most M bytes is drawn, by at most n picks. -/
def Drawn (rb p n M : Nat) (w : World) (e : Ending) (w' : World) : Prop := ∃ (s : ByteArray) (q : Nat), e = .returned (.string s) ∧ s.size ≤ M ∧ q ≤ p + n ∧ Rd w' rb q ∧ Kept [rb] w w'
def line_lits : List ByteArray := [⟨#[10]⟩, ⟨#[127]⟩, ⟨#[64]⟩, ⟨#[34, 115]⟩, ⟨#[97, 98, 99, 100, 101, 102, 103, 104, 105, 106, 107, 108, 109]⟩, ⟨#[92]⟩]
theorem line_lits_size : ∀ s ∈ line_lits, s.size ≤ 13 := by decide

set_option maxHeartbeats 8000000 in
theorem l20Line (rb p : Nat) (n : Int) (w : World) (H : Rd w rb p) (hp : p ≤ 100000) (hn : n ≤ 100) (hn0 : 0 ≤ n) :
    Calls Try.prog 60 #[.pointer (some ⟨rb, 0, none⟩), .int .i64 n] w (Drawn rb p 110 1000 w) := by
  go_enter Try.func60, Try.ntmps60
  go_wp2_with (go_at_call 30; refine (pick rb p _ _ H (by omega) (by omega) (by omega)).mono ?_; rintro e w2 ⟨r, rfl, h0, h1, hR2, hK⟩)
  go_loopw [5, 6] (fun o i wr => ∃ (k q : Nat) (out : ByteArray), k ≤ 6 ∧ q + 14 * k ≤ p + 100 ∧ out.size + 20 * k ≤ 500 ∧ o = .string out ∧ i = .int .i64 k ∧ Rd wr rb q ∧ Kept [rb] w wr) (fun _ i _ => (intOf i).toNat)
  case atStart => exact ⟨r.toNat, p + 1, _, by omega, by omega, by show 0 + _ ≤ _; omega, rfl, by go_num, hR2, hK⟩
  case round =>
    obtain ⟨k, q, out, hk, hq, ho, rfl, rfl, hR, hB⟩ := hrel
    clear hR2 hK
    by_cases hlt : 0 < k
    · go_wp2
      refine wp_region_types (P := Try.prog) (by kernel_rfl) (by kernel_rfl) (Kept [rb]) [pVal (.string out), pLits [rb] 20 6, pVal (.pointer (some ⟨rb, 0, none⟩)), pInt 20, pPtr [rb] 6, pStr 6, pStr (out.size + 6), pLits [rb] 2 1, pVal (.pointer (some ⟨rb, 0, none⟩)), pInt 2, pPtr [rb] 1, pStr 1, pStr ((out.size + 6) + 1), pStr ((out.size + 6) + 1)] (stab_all ⟨stVal _, stLits _ _, stVal _, stInt _, stPtr _, stStr _, stStr _, stLits _ _, stVal _, stInt _, stPtr _, stStr _, stStr _, stStr _, trivial⟩) (jRd rb q wr) ?start (steps_all ⟨?s0, ?s1, ?s2, ?s3, ?s4, ?s5, ?s6, ?s7, ?s8, ?s9, ?s10, ?s11, ?s12, ?s13, trivial⟩) ?done
      case start => exact jRd.start hR
      case s0 =>
        intro xs w' m hl hm hJ hlast hf ho K hK
        replace hm : m < 14 := hm
        obtain ⟨x0, x1, x2, x3, x4, x5, x6, x7, x8, x9, x10, x11, x12, x13, rfl⟩ := len14 hl
        obtain rfl : x13 = .string out := by have := ho 13 _ rfl (.inr ⟨⟨0, .phase⟩, by simp, rfl, rfl⟩); simpa [origs] using this
        clear hlast
        clear hf ho
        simp only [fill, Act.put, List.map_cons, List.map_nil, List.setIfInBounds_toArray, List.set_cons_succ, List.set_cons_zero] at hK ⊢
        go_wp2
        exact hK _ _ (At.mk rfl rfl) (Kept.refl _ _) hJ.same
      case s1 =>
        intro xs w' m hl hm hJ hlast hf ho K hK
        replace hm : m < 14 := hm
        obtain ⟨x0, x1, x2, x3, x4, x5, x6, x7, x8, x9, x10, x11, x12, x13, rfl⟩ := len14 hl
        clear hlast
        clear hf ho
        simp only [fill, Act.put, List.map_cons, List.map_nil, List.setIfInBounds_toArray, List.set_cons_succ, List.set_cons_zero] at hK ⊢
        go_wp2
        exact hK _ _ (At.mk rfl (pLits_new [⟨#[97]⟩, ⟨#[98]⟩, ⟨#[102, 40]⟩, ⟨#[120]⟩, ⟨#[41]⟩, ⟨#[32]⟩, ⟨#[44]⟩, ⟨#[43]⟩, ⟨#[49]⟩, ⟨#[49, 50]⟩, ⟨#[34, 115, 34]⟩, ⟨#[103, 40, 49, 44, 50, 41]⟩, ⟨#[102, 40, 97, 41]⟩, ⟨#[40]⟩, ⟨#[65, 66]⟩, ⟨#[32, 45, 32]⟩, ⟨#[61, 61]⟩, ⟨#[104, 40, 98, 32, 99, 41]⟩, ⟨#[101, 40, 41]⟩, ⟨#[38, 38]⟩] 6 [rb] w' (by decide) hJ.lts 20 rfl)) (Kept.of_below ((Below.refl _ _).alloc (Nat.le_refl _) _)) (hJ.alloc _)
      case s2 =>
        intro xs w' m hl hm hJ hlast hf ho K hK
        replace hm : m < 14 := hm
        obtain ⟨x0, x1, x2, x3, x4, x5, x6, x7, x8, x9, x10, x11, x12, x13, rfl⟩ := len14 hl
        clear hlast
        clear hf ho
        simp only [fill, Act.put, List.map_cons, List.map_nil, List.setIfInBounds_toArray, List.set_cons_succ, List.set_cons_zero] at hK ⊢
        go_wp2
        exact hK _ _ (At.mk rfl rfl) (Kept.refl _ _) hJ.same
      case s3 =>
        intro xs w' m hl hm hJ hlast hf ho K hK
        replace hm : m < 14 := hm
        obtain ⟨x0, x1, x2, x3, x4, x5, x6, x7, x8, x9, x10, x11, x12, x13, rfl⟩ := len14 hl
        have f2 : pVal (.pointer (some ⟨rb, 0, none⟩)) x2 w' := hf ⟨2, .data⟩ (by simp) rfl _ rfl _ rfl
        clear hlast
        clear hf ho
        obtain rfl := f2
        obtain ⟨⟨p1, hp1, hR1⟩, hK1⟩ := hJ
        simp only [fill, Act.put, List.map_cons, List.map_nil, List.setIfInBounds_toArray, List.set_cons_succ, List.set_cons_zero] at hK ⊢
        go_wp2_with (go_at_call 30; refine (pick rb p1 _ _ hR1 (by omega) (by omega) (by omega)).mono ?_; rintro e w2 ⟨rr, rfl, hr0, hr1, hRq, hkq⟩)
        exact hK _ _ (At.mk rfl ⟨rr, rfl, hr0, by omega⟩) hkq ⟨⟨p1 + 1, by omega, hRq⟩, hK1.trans hkq⟩
      case s4 =>
        intro xs w' m hl hm hJ hlast hf ho K hK
        replace hm : m < 14 := hm
        obtain ⟨x0, x1, x2, x3, x4, x5, x6, x7, x8, x9, x10, x11, x12, x13, rfl⟩ := len14 hl
        have f1 : pLits [rb] 20 6 x1 w' := hf ⟨1, .data⟩ (by simp) rfl _ rfl _ rfl
        have f3 : pInt 20 x3 w' := hf ⟨3, .data⟩ (by simp) rfl _ rfl _ rfl
        clear hlast
        clear hf ho
        obtain ⟨ba, rfl, hnea, hba, hca⟩ := f1
        obtain ⟨ri, rfl, hii, hji⟩ := f3
        obtain ⟨s, hc1, hs1⟩ := hca ri.toNat (by omega)
        simp only [fill, Act.put, List.map_cons, List.map_nil, List.setIfInBounds_toArray, List.set_cons_succ, List.set_cons_zero] at hK ⊢
        go_wp2
        exact hK _ _ (At.mk rfl ⟨ba, _, s, rfl, hnea, hba, hc1, hs1⟩) (Kept.refl _ _) hJ.same
      case s5 =>
        intro xs w' m hl hm hJ hlast hf ho K hK
        replace hm : m < 14 := hm
        obtain ⟨x0, x1, x2, x3, x4, x5, x6, x7, x8, x9, x10, x11, x12, x13, rfl⟩ := len14 hl
        have f4 : pPtr [rb] 6 x4 w' := hf ⟨4, .data⟩ (by simp) rfl _ rfl _ rfl
        clear hlast
        clear hf ho
        obtain ⟨ba, ja, sa, rfl, hnea, hba, hca, hsa⟩ := f4
        simp only [fill, Act.put, List.map_cons, List.map_nil, List.setIfInBounds_toArray, List.set_cons_succ, List.set_cons_zero] at hK ⊢
        go_wp2
        exact hK _ _ (At.mk rfl ⟨_, rfl, hsa⟩) (Kept.refl _ _) hJ.same
      case s6 =>
        intro xs w' m hl hm hJ hlast hf ho K hK
        replace hm : m < 14 := hm
        obtain ⟨x0, x1, x2, x3, x4, x5, x6, x7, x8, x9, x10, x11, x12, x13, rfl⟩ := len14 hl
        have f0 : pVal (.string out) x0 w' := hf ⟨0, .data⟩ (by simp) rfl _ rfl _ rfl
        have f5 : pStr 6 x5 w' := hf ⟨5, .data⟩ (by simp) rfl _ rfl _ rfl
        clear hlast
        clear hf ho
        obtain rfl := f0
        obtain ⟨sb, rfl, hsb⟩ := f5
        have hadd := fun W => run_string_add_sum (P := Try.prog) W out sb (by omega)
        simp only [fill, Act.put, List.map_cons, List.map_nil, List.setIfInBounds_toArray, List.set_cons_succ, List.set_cons_zero] at hK ⊢
        go_wp2
        exact hK _ _ (At.mk rfl ⟨_, rfl, by rw [ByteArray.size_append]; omega⟩) (Kept.refl _ _) hJ.same
      case s7 =>
        intro xs w' m hl hm hJ hlast hf ho K hK
        replace hm : m < 14 := hm
        obtain ⟨x0, x1, x2, x3, x4, x5, x6, x7, x8, x9, x10, x11, x12, x13, rfl⟩ := len14 hl
        clear hlast
        clear hf ho
        simp only [fill, Act.put, List.map_cons, List.map_nil, List.setIfInBounds_toArray, List.set_cons_succ, List.set_cons_zero] at hK ⊢
        go_wp2
        exact hK _ _ (At.mk rfl (pLits_new [⟨#[]⟩, ⟨#[32]⟩] 1 [rb] w' (by decide) hJ.lts 2 rfl)) (Kept.of_below ((Below.refl _ _).alloc (Nat.le_refl _) _)) (hJ.alloc _)
      case s8 =>
        intro xs w' m hl hm hJ hlast hf ho K hK
        replace hm : m < 14 := hm
        obtain ⟨x0, x1, x2, x3, x4, x5, x6, x7, x8, x9, x10, x11, x12, x13, rfl⟩ := len14 hl
        clear hlast
        clear hf ho
        simp only [fill, Act.put, List.map_cons, List.map_nil, List.setIfInBounds_toArray, List.set_cons_succ, List.set_cons_zero] at hK ⊢
        go_wp2
        exact hK _ _ (At.mk rfl rfl) (Kept.refl _ _) hJ.same
      case s9 =>
        intro xs w' m hl hm hJ hlast hf ho K hK
        replace hm : m < 14 := hm
        obtain ⟨x0, x1, x2, x3, x4, x5, x6, x7, x8, x9, x10, x11, x12, x13, rfl⟩ := len14 hl
        have f8 : pVal (.pointer (some ⟨rb, 0, none⟩)) x8 w' := hf ⟨8, .data⟩ (by simp) rfl _ rfl _ rfl
        clear hlast
        clear hf ho
        obtain rfl := f8
        obtain ⟨⟨p1, hp1, hR1⟩, hK1⟩ := hJ
        simp only [fill, Act.put, List.map_cons, List.map_nil, List.setIfInBounds_toArray, List.set_cons_succ, List.set_cons_zero] at hK ⊢
        go_wp2_with (go_at_call 30; refine (pick rb p1 _ _ hR1 (by omega) (by omega) (by omega)).mono ?_; rintro e w2 ⟨rr, rfl, hr0, hr1, hRq, hkq⟩)
        exact hK _ _ (At.mk rfl ⟨rr, rfl, hr0, by omega⟩) hkq ⟨⟨p1 + 1, by omega, hRq⟩, hK1.trans hkq⟩
      case s10 =>
        intro xs w' m hl hm hJ hlast hf ho K hK
        replace hm : m < 14 := hm
        obtain ⟨x0, x1, x2, x3, x4, x5, x6, x7, x8, x9, x10, x11, x12, x13, rfl⟩ := len14 hl
        have f7 : pLits [rb] 2 1 x7 w' := hf ⟨7, .data⟩ (by simp) rfl _ rfl _ rfl
        have f9 : pInt 2 x9 w' := hf ⟨9, .data⟩ (by simp) rfl _ rfl _ rfl
        clear hlast
        clear hf ho
        obtain ⟨ba, rfl, hnea, hba, hca⟩ := f7
        obtain ⟨ri, rfl, hii, hji⟩ := f9
        obtain ⟨s, hc1, hs1⟩ := hca ri.toNat (by omega)
        simp only [fill, Act.put, List.map_cons, List.map_nil, List.setIfInBounds_toArray, List.set_cons_succ, List.set_cons_zero] at hK ⊢
        go_wp2
        exact hK _ _ (At.mk rfl ⟨ba, _, s, rfl, hnea, hba, hc1, hs1⟩) (Kept.refl _ _) hJ.same
      case s11 =>
        intro xs w' m hl hm hJ hlast hf ho K hK
        replace hm : m < 14 := hm
        obtain ⟨x0, x1, x2, x3, x4, x5, x6, x7, x8, x9, x10, x11, x12, x13, rfl⟩ := len14 hl
        have f10 : pPtr [rb] 1 x10 w' := hf ⟨10, .data⟩ (by simp) rfl _ rfl _ rfl
        clear hlast
        clear hf ho
        obtain ⟨ba, ja, sa, rfl, hnea, hba, hca, hsa⟩ := f10
        simp only [fill, Act.put, List.map_cons, List.map_nil, List.setIfInBounds_toArray, List.set_cons_succ, List.set_cons_zero] at hK ⊢
        go_wp2
        exact hK _ _ (At.mk rfl ⟨_, rfl, hsa⟩) (Kept.refl _ _) hJ.same
      case s12 =>
        intro xs w' m hl hm hJ hlast hf ho K hK
        replace hm : m < 14 := hm
        obtain ⟨x0, x1, x2, x3, x4, x5, x6, x7, x8, x9, x10, x11, x12, x13, rfl⟩ := len14 hl
        have f6 : pStr (out.size + 6) x6 w' := hf ⟨6, .data⟩ (by simp) rfl _ rfl _ rfl
        have f11 : pStr 1 x11 w' := hf ⟨11, .data⟩ (by simp) rfl _ rfl _ rfl
        clear hlast
        clear hf ho
        obtain ⟨sa, rfl, hsa⟩ := f6
        obtain ⟨sb, rfl, hsb⟩ := f11
        have hadd := fun W => run_string_add_sum (P := Try.prog) W sa sb (by omega)
        simp only [fill, Act.put, List.map_cons, List.map_nil, List.setIfInBounds_toArray, List.set_cons_succ, List.set_cons_zero] at hK ⊢
        go_wp2
        exact hK _ _ (At.mk rfl ⟨_, rfl, by rw [ByteArray.size_append]; omega⟩) (Kept.refl _ _) hJ.same
      case s13 =>
        intro xs w' m hl hm hJ hlast hf ho K hK
        replace hm : m < 14 := hm
        obtain ⟨x0, x1, x2, x3, x4, x5, x6, x7, x8, x9, x10, x11, x12, x13, rfl⟩ := len14 hl
        have f12 : pStr ((out.size + 6) + 1) x12 w' := hf ⟨12, .data⟩ (by simp) rfl _ rfl _ rfl
        clear hlast
        clear hf ho
        obtain ⟨sa, rfl, hsa⟩ := f12
        simp only [fill, Act.put, List.map_cons, List.map_nil, List.setIfInBounds_toArray, List.set_cons_succ, List.set_cons_zero] at hK ⊢
        go_wp2
        exact hK _ _ (At.mk rfl ⟨_, rfl, hsa⟩) (Kept.refl _ _) hJ.same
      case done =>
        intro xs w' hl hf hJ
        obtain ⟨x0, x1, x2, x3, x4, x5, x6, x7, x8, x9, x10, x11, x12, x13, rfl⟩ := len14 hl
        have f13 : pStr ((out.size + 6) + 1) x13 w' := hf 13 _ rfl _ rfl
        obtain ⟨sz, rfl, hsz⟩ := f13
        clear hf
        obtain ⟨⟨p1, hp1, hR1⟩, hK1⟩ := hJ
        replace hp1 : p1 ≤ q + 14 := hp1
        simp only [fill, Act.put, List.map_cons, List.map_nil, List.setIfInBounds_toArray, List.set_cons_succ, List.set_cons_zero]
        go_wp2
        go_roundw
        case rel => exact ⟨k - 1, p1, sz, by omega, by omega, by omega, rfl, by go_num, hR1, hB.trans hK1⟩
        case measure => simp [intOf]; omega
    · go_wp2_with fail
      refine (odd rb q _ _ hR (by omega) (by omega) (by omega)).mono ?_
      rintro e w3 ⟨b, q2, rfl, hq1, hq2, hR3, hK3⟩
      cases b
      · go_wp2
        go_ret
        exact ⟨out, q2, rfl, by omega, by omega, hR3, hB.trans hK3⟩
      · go_wp2_with (go_at_call 30; refine (pick rb q2 _ _ (hR3.grow ((Below.refl _ _).alloc (Nat.le_refl _) _)) (by omega) (by omega) (by omega)).mono ?_; rintro e w4 ⟨r2, rfl, h20, h21, hR4, hK4⟩; obtain ⟨s, hs, hc⟩ := lit_pick line_lits 13 line_lits_size h20 (by show r2 < 6; omega) hR3.lt hK4; have hadd := fun W => run_string_add_sum (P := Try.prog) W out s (by omega))
        go_ret
        exact ⟨out ++ s, q2 + 1, rfl, by rw [ByteArray.size_append]; omega, by omega, hR4, (hB.trans hK3).trans ((Kept.of_below ((Below.refl _ _).alloc (Nat.le_refl _) _)).trans hK4)⟩

end Go.Proofs.Ytbkmapaieillmaa

/- Lines without their comments: no program. -/
namespace Go.Proofs.Ytbkmapaieillmaa
open Go.RowKit

def tEnd (s : ByteArray) (k : Nat) : Nat :=
  if h : k < s.size then (if s[k].toNat = 34 then k + 1 else if s[k].toNat = 92 then tEnd s (k + 2) else tEnd s (k + 1)) else s.size
termination_by s.size - k
theorem tEnd_quote {s : ByteArray} {k : Nat} (h : k < s.size) (hc : s[k].toNat = 34) : tEnd s k = k + 1 := by rw [tEnd, dif_pos h, if_pos hc]
theorem tEnd_back {s : ByteArray} {k : Nat} (h : k < s.size) (hc : s[k].toNat = 92) : tEnd s k = tEnd s (k + 2) := by rw [tEnd, dif_pos h, if_neg (by omega), if_pos hc]
theorem tEnd_else {s : ByteArray} {k : Nat} (h : k < s.size) (h1 : ¬ s[k].toNat = 34) (h2 : ¬ s[k].toNat = 92) : tEnd s k = tEnd s (k + 1) := by rw [tEnd, dif_pos h, if_neg h1, if_neg h2]
theorem tEnd_out {s : ByteArray} {k : Nat} (h : s.size ≤ k) : tEnd s k = s.size := by rw [tEnd, dif_neg (by omega)]
theorem tEnd_bounds (s : ByteArray) (k : Nat) : tEnd s k ≤ s.size ∧ (k ≤ s.size → k ≤ tEnd s k) := by
  induction k using tEnd.induct (s := s) with
  | case1 k h hc => rw [tEnd_quote h hc]; omega
  | case2 k h h1 hc ih => rw [tEnd_back h hc]; exact ⟨ih.1, fun _ => by
    by_cases h2 : k + 2 ≤ s.size
    · have := ih.2 h2; omega
    · rw [tEnd_out (by omega)]; omega⟩
  | case3 k h h1 h2 ih => rw [tEnd_else h h1 h2]; exact ⟨ih.1, fun _ => by have := ih.2 (by omega); omega⟩
  | case4 k h => rw [tEnd_out (by omega)]; omega

def two (s : ByteArray) (k : Nat) (a b : UInt8) : Bool := [a, b].isPrefixOf (s.data.toList.drop k)
theorem take_two (l : List UInt8) (a b : UInt8) : (l.take 2 == [a, b]) = [a, b].isPrefixOf l := by
  match l with
  | [] => rfl
  | [x] => simp [List.isPrefixOf]
  | x :: y :: t =>
    show ([x, y] == [a, b]) = (a == x && (b == y && true))
    rw [Bool.eq_iff_iff, beq_iff_eq, Bool.and_eq_true, Bool.and_eq_true, beq_iff_eq, beq_iff_eq, List.cons.injEq, List.cons.injEq]
    exact ⟨fun h => ⟨h.1.symm, h.2.1.symm, rfl⟩, fun h => ⟨h.1.symm, h.2.1.symm, rfl⟩⟩
theorem ext_list (s : ByteArray) (i j : Nat) : (s.extract i j).data.toList = (s.data.toList.drop i).take (j - i) := by
  rw [ByteArray.data_extract, Array.toList_extract, List.extract_eq_take_drop]
theorem ext_two (s : ByteArray) (k : Nat) (a b : UInt8) : ((s.extract k (k + 2)).toList == [a, b]) = two s k a b := by
  rw [ByteArray.toList_eq, ext_list, show k + 2 - k = 2 from by omega, take_two]; rfl
theorem ext_min (s : ByteArray) (k : Nat) : s.extract k (min s.size (k + 2)) = s.extract k (k + 2) := by
  apply Go.WideShapes.bytes_inj
  rw [ext_list, ext_list]
  by_cases h : k + 2 ≤ s.size
  · rw [Nat.min_eq_right h]
  · have e : s.data.toList.length = s.size := Array.length_toList
    rw [Nat.min_eq_left (by omega), List.take_of_length_le (by rw [List.length_drop]; omega), List.take_of_length_le (by rw [List.length_drop]; omega)]
theorem ext_rest (s : ByteArray) (k : Nat) : (s.extract k s.size).data.toList = s.data.toList.drop k := by
  have e : s.data.toList.length = s.size := Array.length_toList
  rw [ext_list, List.take_of_length_le (by rw [List.length_drop]; omega)]
theorem pre_two (s : ByteArray) (k : Nat) (a b : UInt8) : Lib.hasPrefix (s.extract k s.size).data.toList [a, b] = two s k a b := by
  rw [ext_rest]; rfl
theorem two_room {s : ByteArray} {k : Nat} {a b : UInt8} (h : two s k a b = true) : k + 1 < s.size := by
  have e : s.data.toList.length = s.size := Array.length_toList
  have := List.IsPrefix.length_le (List.isPrefixOf_iff_prefix.1 h)
  simp only [List.length_cons, List.length_nil, List.length_drop] at this
  omega

/-- The place behind the end of a comment whose inside begins at k. -/
def cEnd (s : ByteArray) (k : Nat) : Int := if Lib.index (s.data.toList.drop k) [42, 47] < 0 then -1 else k + Lib.index (s.data.toList.drop k) [42, 47] + 2
theorem index_room : ∀ (l : List UInt8) {sub : List UInt8}, 0 ≤ Lib.index l sub → (Lib.index l sub).toNat + sub.length ≤ l.length
  | [], sub, h => by
    unfold Lib.index at *
    split at h
    · rename_i h1; have : sub = [] := by simpa using h1
      subst this; simp
    · omega
  | b :: l, sub, h => by
    unfold Lib.index at *
    split at h
    · rename_i h1
      rw [if_pos h1]
      have := List.IsPrefix.length_le (List.isPrefixOf_iff_prefix.1 h1)
      simpa using this
    · rename_i h1
      rw [if_neg h1]
      split at h
      · omega
      · rename_i h2
        rw [if_neg h2]
        have h3 := Lib.index_ge l sub
        have h4 : ¬ Lib.index l sub = -1 := by simpa using h2
        have := index_room l (sub := sub) (by omega)
        simp only [List.length_cons]
        omega
theorem cEnd_room {s : ByteArray} {k : Nat} (h : 0 ≤ cEnd s k) (hk : k ≤ s.size) : (k : Int) + 2 ≤ cEnd s k ∧ cEnd s k ≤ s.size := by
  unfold cEnd at *
  split at h
  · omega
  · rename_i h1
    rw [if_neg h1]
    have := index_room (s.data.toList.drop k) (sub := [42, 47]) (by omega)
    have e : s.data.toList.length = s.size := Array.length_toList
    simp only [List.length_cons, List.length_nil, List.length_drop] at this
    omega
theorem cEnd_ge (s : ByteArray) (k : Nat) : -1 ≤ cEnd s k := by
  unfold cEnd
  have := Lib.index_ge (s.data.toList.drop k) [42, 47]
  split <;> omega
def NoEnd (s : ByteArray) (k m : Nat) : Prop := ∀ j, k ≤ j → j < m → two s j 42 47 = false
theorem NoEnd.zero (s : ByteArray) (k : Nat) : NoEnd s k k := fun j h1 h2 => by omega
theorem NoEnd.succ {s : ByteArray} {k m : Nat} (h : NoEnd s k m) (h2 : two s m 42 47 = false) : NoEnd s k (m + 1) := by
  intro j h1 hj
  by_cases e : j = m
  · subst e; exact h2
  · exact h j h1 (by omega)
theorem NoEnd.hit {s : ByteArray} {k m : Nat} (h : NoEnd s k m) (hk : k ≤ m) (h2 : two s m 42 47 = true) : cEnd s k = m + 2 := by
  have hr := two_room h2
  have e : s.data.toList.length = s.size := Array.length_toList
  have : Lib.index (s.data.toList.drop k) [42, 47] = ((m - k : Nat) : Int) := by
    refine Lib.index_first (by rw [List.length_drop]; omega) ?_ ?_
    · unfold Lib.occAt; rw [List.drop_drop, show k + (m - k) = m from by omega]; exact h2
    · intro j hj; unfold Lib.occAt; rw [List.drop_drop]; exact h (k + j) (by omega) (by omega)
  unfold cEnd
  rw [this, if_neg (by omega)]
  omega
theorem NoEnd.miss {s : ByteArray} {k m : Nat} (h : NoEnd s k m) (hm : s.size ≤ m + 1) : cEnd s k = -1 := by
  have : Lib.index (s.data.toList.drop k) [42, 47] = -1 := by
    refine Lib.index_none fun j hj => ?_
    unfold Lib.occAt; rw [List.drop_drop]
    by_cases hj : k + j < m
    · exact h (k + j) (by omega) hj
    · cases hb : List.isPrefixOf [42, 47] (s.data.toList.drop (k + j))
      · rfl
      · have := two_room (s := s) (k := k + j) hb; omega
  unfold cEnd
  rw [this]; rfl

def strip1 (s : ByteArray) (k : Nat) : Option ByteArray :=
  if h : k < s.size then
    if two s k 47 47 = true then some ⟨#[]⟩
    else if two s k 47 42 = true then
      if cEnd s (k + 2) < 0 then none else (strip1 s (max (k + 1) (cEnd s (k + 2)).toNat)).map (⟨#[32]⟩ ++ ·)
    else if s[k].toNat = 34 then (strip1 s (max (k + 1) (tEnd s (k + 1)))).map (s.extract k (tEnd s (k + 1)) ++ ·)
    else (strip1 s (k + 1)).map (s.extract k (k + 1) ++ ·)
  else some ⟨#[]⟩
termination_by s.size - k

/-- What has come out when the place k is reached. -/
def At1 (s : ByteArray) (k : Nat) (out : ByteArray) : Prop := (strip1 s k).map (out ++ ·) = strip1 s 0 ∧ out.size ≤ k
theorem app_assoc (a b : ByteArray) (o : Option ByteArray) : (o.map (b ++ ·)).map (a ++ ·) = o.map ((a ++ b) ++ ·) := by
  rw [Option.map_map]; congr 1; funext x; simp [ByteArray.append_assoc]
theorem nil_app (a : ByteArray) : (⟨#[]⟩ : ByteArray) ++ a = a := by apply Go.WideShapes.bytes_inj; simp
theorem app_nil (a : ByteArray) : a ++ (⟨#[]⟩ : ByteArray) = a := by apply Go.WideShapes.bytes_inj; simp
theorem At1.zero (s : ByteArray) : At1 s 0 ⟨#[]⟩ := ⟨by
  have : (fun x : ByteArray => (⟨#[]⟩ : ByteArray) ++ x) = id := by funext x; exact nil_app x
  rw [this, Option.map_id]; rfl, by simp [ByteArray.size]⟩
theorem At1.line {s : ByteArray} {k : Nat} {out : ByteArray} (h : At1 s k out) (hk : k < s.size) (h1 : two s k 47 47 = true) : strip1 s 0 = some out := by
  rw [← h.1, strip1, dif_pos hk, if_pos h1, Option.map_some, app_nil]
theorem At1.done {s : ByteArray} {k : Nat} {out : ByteArray} (h : At1 s k out) (hk : s.size ≤ k) : strip1 s 0 = some out := by
  rw [← h.1, strip1, dif_neg (by omega), Option.map_some, app_nil]
theorem At1.open_ {s : ByteArray} {k : Nat} {out : ByteArray} (h : At1 s k out) (hk : k < s.size) (h1 : two s k 47 47 = false) (h2 : two s k 47 42 = true) (h3 : cEnd s (k + 2) < 0) : strip1 s 0 = none := by
  rw [← h.1, strip1, dif_pos hk, if_neg (by simp [h1]), if_pos h2, if_pos h3]; rfl
theorem At1.comment {s : ByteArray} {k : Nat} {out : ByteArray} (h : At1 s k out) (hk : k < s.size) (h1 : two s k 47 47 = false) (h2 : two s k 47 42 = true) (h3 : ¬ cEnd s (k + 2) < 0) : At1 s (cEnd s (k + 2)).toNat (out ++ ⟨#[32]⟩) := by
  have hr := two_room h2
  have hc := cEnd_room (s := s) (k := k + 2) (by omega) (by omega)
  refine ⟨?_, by rw [ByteArray.size_append]; have := h.2; show out.size + 1 ≤ _; omega⟩
  rw [← h.1, strip1.eq_def s k, dif_pos hk, if_neg (by simp [h1]), if_pos h2, if_neg h3, app_assoc, Nat.max_eq_right (by omega)]
theorem At1.text {s : ByteArray} {k : Nat} {out : ByteArray} (h : At1 s k out) (hk : k < s.size) (h1 : two s k 47 47 = false) (h2 : two s k 47 42 = false) (h3 : s[k].toNat = 34) : At1 s (tEnd s (k + 1)) (out ++ s.extract k (tEnd s (k + 1))) := by
  have hb := tEnd_bounds s (k + 1)
  have hb2 := hb.2 (by omega)
  refine ⟨?_, by rw [ByteArray.size_append, ByteArray.size_extract]; have := h.2; omega⟩
  rw [← h.1, strip1.eq_def s k, dif_pos hk, if_neg (by simp [h1]), if_neg (by simp [h2]), if_pos h3, app_assoc, Nat.max_eq_right (by omega)]
theorem At1.byte {s : ByteArray} {k : Nat} {out : ByteArray} (h : At1 s k out) (hk : k < s.size) (h1 : two s k 47 47 = false) (h2 : two s k 47 42 = false) (h3 : ¬ s[k].toNat = 34) : At1 s (k + 1) (out ++ s.extract k (k + 1)) := by
  refine ⟨?_, by rw [ByteArray.size_append, ByteArray.size_extract]; have := h.2; omega⟩
  rw [← h.1, strip1.eq_def s k, dif_pos hk, if_neg (by simp [h1]), if_neg (by simp [h2]), if_neg h3, app_assoc]

def stripRes (s : ByteArray) : ByteArray × Bool := if lineOk s = true then (match strip1 s 0 with | none => (⟨#[]⟩, false) | some x => (x, true)) else (⟨#[]⟩, false)
theorem stripRes_bad {s : ByteArray} (h : lineOk s = false) : stripRes s = (⟨#[]⟩, false) := by unfold stripRes; rw [h]; rfl
theorem stripRes_none {s : ByteArray} (h : strip1 s 0 = none) : stripRes s = (⟨#[]⟩, false) := by unfold stripRes; rw [h]; split <;> rfl
theorem stripRes_some {s x : ByteArray} (h0 : lineOk s = true) (h : strip1 s 0 = some x) : stripRes s = (x, true) := by unfold stripRes; rw [if_pos h0, h]
theorem lineOk_size {s : ByteArray} (h : lineOk s = true) : s.size ≤ 200 := by
  unfold lineOk at h
  rw [Bool.and_eq_true, decide_eq_true_eq] at h
  exact h.1
theorem ret_two {a : ByteArray × Bool} {x : ByteArray} {b : Bool} (h : a = (x, b)) : Ending.returned (.tuple #[.string x, .bool b]) = .returned (.tuple #[.string a.1, .bool a.2]) := by rw [h]

end Go.Proofs.Ytbkmapaieillmaa

/- Tokens of a line: no program. -/
namespace Go.Proofs.Ytbkmapaieillmaa
open Go.RowKit

structure Tok where
  kind : Int
  text : ByteArray
  spaced : Bool
  hidden : List ByteArray
theorem Tok.ext' {a b : Tok} (h1 : a.kind = b.kind) (h2 : a.text = b.text) (h3 : a.spaced = b.spaced) (h4 : a.hidden = b.hidden) : a = b := by
  cases a; cases b; simp_all
instance : DecidableEq Tok := fun a b =>
  if h1 : a.kind = b.kind then if h2 : a.text = b.text then if h3 : a.spaced = b.spaced then if h4 : a.hidden = b.hidden then isTrue (Tok.ext' h1 h2 h3 h4)
    else isFalse fun h => h4 (by rw [h]) else isFalse fun h => h3 (by rw [h]) else isFalse fun h => h2 (by rw [h]) else isFalse fun h => h1 (by rw [h])

def isLet (c : UInt8) : Bool := decide (97 ≤ c.toNat ∧ c.toNat ≤ 122 ∨ 65 ≤ c.toNat ∧ c.toNat ≤ 90 ∨ c.toNat = 95)
def isDig (c : UInt8) : Bool := decide (48 ≤ c.toNat ∧ c.toNat ≤ 57)
def isWord (c : UInt8) : Bool := isLet c || isDig c
theorem isLet_iff (c : UInt8) : isLet c = true ↔ (97 ≤ c.toNat ∧ c.toNat ≤ 122 ∨ 65 ≤ c.toNat ∧ c.toNat ≤ 90 ∨ c.toNat = 95) := by unfold isLet; exact decide_eq_true_iff
theorem isDig_iff (c : UInt8) : isDig c = true ↔ (48 ≤ c.toNat ∧ c.toNat ≤ 57) := by unfold isDig; exact decide_eq_true_iff
theorem isWord_iff (c : UInt8) : isWord c = true ↔ ((97 ≤ c.toNat ∧ c.toNat ≤ 122 ∨ 65 ≤ c.toNat ∧ c.toNat ≤ 90 ∨ c.toNat = 95) ∨ (48 ≤ c.toNat ∧ c.toNat ≤ 57)) := by
  unfold isWord; rw [Bool.or_eq_true, isLet_iff, isDig_iff]
theorem b_true {b : Bool} {p : Prop} (h : b = true ↔ p) (hp : p) : true = b := (h.2 hp).symm
theorem b_false {b : Bool} {p : Prop} (h : b = true ↔ p) (hp : ¬ p) : false = b := by
  cases b
  · rfl
  · exact absurd (h.1 rfl) hp
/-- The nine ways of a byte. -/
theorem nine (c : UInt8) : 123 ≤ (c.toNat : Int) ∨ (97 ≤ (c.toNat : Int) ∧ (c.toNat : Int) ≤ 122) ∨ (c.toNat : Int) = 96 ∨ (c.toNat : Int) = 95 ∨ (91 ≤ (c.toNat : Int) ∧ (c.toNat : Int) ≤ 94) ∨ (65 ≤ (c.toNat : Int) ∧ (c.toNat : Int) ≤ 90) ∨ (58 ≤ (c.toNat : Int) ∧ (c.toNat : Int) ≤ 64) ∨ (48 ≤ (c.toNat : Int) ∧ (c.toNat : Int) ≤ 57) ∨ (c.toNat : Int) ≤ 47 := by omega

def wEnd (s : ByteArray) (k : Nat) : Nat := if h : k < s.size then (if isWord s[k] = true then wEnd s (k + 1) else k) else k
termination_by s.size - k
theorem wEnd_in {s : ByteArray} {k : Nat} (h : k < s.size) (hc : isWord s[k] = true) : wEnd s k = wEnd s (k + 1) := by rw [wEnd, dif_pos h, if_pos hc]
theorem wEnd_stop {s : ByteArray} {k : Nat} (h : k < s.size) (hc : isWord s[k] = false) : wEnd s k = k := by rw [wEnd, dif_pos h, if_neg (by simp [hc])]
theorem wEnd_out {s : ByteArray} {k : Nat} (h : s.size ≤ k) : wEnd s k = k := by rw [wEnd, dif_neg (by omega)]
theorem wEnd_bounds (s : ByteArray) (k : Nat) : k ≤ wEnd s k ∧ (k ≤ s.size → wEnd s k ≤ s.size) := by
  induction k using wEnd.induct (s := s) with
  | case1 k h hc ih => rw [wEnd_in h hc]; exact ⟨by omega, fun _ => ih.2 (by omega)⟩
  | case2 k h hc => rw [wEnd_stop h (by simpa using hc)]; omega
  | case3 k h => rw [wEnd_out (by omega)]; omega

/-- The place behind the quote that ends a text whose inside begins at k. -/
def tClose (s : ByteArray) (k : Nat) : Option Nat :=
  if h : k < s.size then (if s[k].toNat = 34 then some (k + 1) else if s[k].toNat = 92 then tClose s (k + 2) else tClose s (k + 1)) else none
termination_by s.size - k
theorem tClose_quote {s : ByteArray} {k : Nat} (h : k < s.size) (hc : s[k].toNat = 34) : tClose s k = some (k + 1) := by rw [tClose, dif_pos h, if_pos hc]
theorem tClose_back {s : ByteArray} {k : Nat} (h : k < s.size) (hc : s[k].toNat = 92) : tClose s k = tClose s (k + 2) := by rw [tClose, dif_pos h, if_neg (by omega), if_pos hc]
theorem tClose_else {s : ByteArray} {k : Nat} (h : k < s.size) (h1 : ¬ s[k].toNat = 34) (h2 : ¬ s[k].toNat = 92) : tClose s k = tClose s (k + 1) := by rw [tClose, dif_pos h, if_neg h1, if_neg h2]
theorem tClose_out {s : ByteArray} {k : Nat} (h : s.size ≤ k) : tClose s k = none := by rw [tClose, dif_neg (by omega)]
theorem tClose_some {s : ByteArray} {k e : Nat} (h : tClose s k = some e) : k + 1 ≤ e ∧ e ≤ s.size ∧ tEnd s k = e ∧ ∃ hh : e - 1 < s.size, s[e - 1].toNat = 34 := by
  induction k using tClose.induct (s := s) with
  | case1 k hk hc =>
    rw [tClose_quote hk hc, Option.some.injEq] at h
    subst h
    exact ⟨by omega, by omega, tEnd_quote hk hc, by simp; omega, hc⟩
  | case2 k hk h1 hc ih =>
    rw [tClose_back hk hc] at h
    obtain ⟨a, b, c, d⟩ := ih h
    exact ⟨by omega, b, by rw [tEnd_back hk hc, c], d⟩
  | case3 k hk h1 h2 ih =>
    rw [tClose_else hk h1 h2] at h
    obtain ⟨a, b, c, d⟩ := ih h
    exact ⟨by omega, b, by rw [tEnd_else hk h1 h2, c], d⟩
  | case4 k hk => rw [tClose_out (by omega)] at h; exact absurd h (by simp)
theorem tClose_none {s : ByteArray} {k : Nat} (h : tClose s k = none) : tEnd s k = s.size := by
  induction k using tClose.induct (s := s) with
  | case1 k hk hc => rw [tClose_quote hk hc] at h; simp at h
  | case2 k hk h1 hc ih => rw [tClose_back hk hc] at h; rw [tEnd_back hk hc, ih h]
  | case3 k hk h1 h2 ih => rw [tClose_else hk h1 h2] at h; rw [tEnd_else hk h1 h2, ih h]
  | case4 k hk => exact tEnd_out (by omega)

/-- The text with a space behind it, as the program closes texts. -/
def plus (s : ByteArray) : ByteArray := s ++ ⟨#[32]⟩
theorem plus_size (s : ByteArray) : (plus s).size = s.size + 1 := by unfold plus; rw [ByteArray.size_append]; rfl
theorem plus_at (s : ByteArray) (k : Nat) (h : k < s.size) : (plus s)[k]'(by rw [plus_size]; omega) = s[k] := by
  unfold plus; rw [ByteArray.getElem_append_left h]
theorem plus_end (s : ByteArray) : (plus s)[s.size]'(by rw [plus_size]; omega) = 32 := by
  unfold plus; rw [ByteArray.getElem_append_right (Nat.le_refl _)]; simp; rfl
theorem tEnd_plus (s : ByteArray) (k : Nat) (hk : k ≤ s.size + 1) : tEnd (plus s) k = match tClose s k with | some e => e | none => s.size + 1 := by
  induction k using tClose.induct (s := s) with
  | case1 k h hc =>
    rw [tClose_quote h hc, tEnd_quote (by rw [plus_size]; omega) (by rw [plus_at s k h]; exact hc)]
  | case2 k h h1 hc ih =>
    rw [tClose_back h hc, tEnd_back (by rw [plus_size]; omega) (by rw [plus_at s k h]; exact hc)]
    exact ih (by omega)
  | case3 k h h1 h2 ih =>
    rw [tClose_else h h1 h2, tEnd_else (by rw [plus_size]; omega) (by rw [plus_at s k h]; exact h1) (by rw [plus_at s k h]; exact h2)]
    exact ih (by omega)
  | case4 k h =>
    rw [tClose_out (by omega)]
    by_cases e : k = s.size
    · subst e
      rw [tEnd_else (by rw [plus_size]; omega) (by rw [plus_end]; decide) (by rw [plus_end]; decide), tEnd_out (by rw [plus_size]; omega), plus_size]
    · rw [tEnd_out (by rw [plus_size]; omega), plus_size]

/-- Where the model's walk over a text ends: it comes to the last byte exactly if the text is closed. -/
def bk (s : ByteArray) (k e : Nat) : Nat := if h : k < e ∧ k < s.size then (if s[k].toNat = 92 then bk s (k + 2) e else bk s (k + 1) e) else k
termination_by e - k
theorem bk_back {s : ByteArray} {k e : Nat} (h : k < e) (h' : k < s.size) (hc : s[k].toNat = 92) : bk s k e = bk s (k + 2) e := by rw [bk, dif_pos ⟨h, h'⟩, if_pos hc]
theorem bk_else {s : ByteArray} {k e : Nat} (h : k < e) (h' : k < s.size) (hc : ¬ s[k].toNat = 92) : bk s k e = bk s (k + 1) e := by rw [bk, dif_pos ⟨h, h'⟩, if_neg hc]
theorem bk_out {s : ByteArray} {k e : Nat} (h : e ≤ k) : bk s k e = k := by rw [bk, dif_neg (by omega)]
theorem bk_closed {s : ByteArray} {k e : Nat} (h : tClose s k = some e) : bk s k (e - 1) = e - 1 := by
  induction k using tClose.induct (s := s) with
  | case1 k hk hc =>
    rw [tClose_quote hk hc, Option.some.injEq] at h
    subst h
    rw [bk_out (by omega)]; omega
  | case2 k hk h1 hc ih =>
    rw [tClose_back hk hc] at h
    have := tClose_some h
    rw [bk_back (by omega) hk hc]
    exact ih h
  | case3 k hk h1 h2 ih =>
    rw [tClose_else hk h1 h2] at h
    have := tClose_some h
    rw [bk_else (by omega) hk h2]
    exact ih h
  | case4 k hk => rw [tClose_out (by omega)] at h; exact absurd h (by simp)
theorem bk_open {s : ByteArray} {k : Nat} (h : tClose s k = none) (hk : k < s.size) (hq : s[s.size - 1].toNat = 34) : bk s k (s.size - 1) ≠ s.size - 1 := by
  induction k using tClose.induct (s := s) with
  | case1 k hk hc => rw [tClose_quote hk hc] at h; simp at h
  | case2 k hk' h1 hc ih =>
    rw [tClose_back hk' hc] at h
    have hn : k ≠ s.size - 1 := by rintro rfl; omega
    rw [bk_back (by omega) hk' hc]
    by_cases h2 : k + 2 < s.size
    · exact ih h h2 hq
    · rw [bk_out (by omega)]; omega
  | case3 k hk' h1 h2 ih =>
    rw [tClose_else hk' h1 h2] at h
    have hn : k ≠ s.size - 1 := by rintro rfl; omega
    rw [bk_else (by omega) hk' h2]
    exact ih h (by omega) hq
  | case4 k hk' => omega

def twoAt (s : ByteArray) (k : Nat) : Bool := two s k 61 61 || two s k 33 61 || two s k 60 61 || two s k 62 61 || two s k 38 38 || two s k 124 124 || two s k 35 35
def marks1 : List UInt8 := [43, 45, 42, 47, 37, 60, 62, 61, 33, 38, 124, 40, 41, 44, 35, 59, 63, 58, 123, 125, 91, 93, 46]
def mLen (s : ByteArray) (k : Nat) : Nat := if twoAt s k = true then 2 else if h : k < s.size then (if s[k] ∈ marks1 then 1 else 0) else 0
theorem twoAt_room {s : ByteArray} {k : Nat} (h : twoAt s k = true) : k + 1 < s.size := by
  unfold twoAt at h
  simp only [Bool.or_eq_true] at h
  rcases h with (((((h | h) | h) | h) | h) | h) | h <;> exact two_room h
theorem mLen_room {s : ByteArray} {k : Nat} (hk : k < s.size) : k + mLen s k ≤ s.size ∧ mLen s k ≤ 2 := by
  unfold mLen
  split
  · rename_i h; have := twoAt_room h; omega
  · split <;> (try split) <;> omega

def wordTo (s : ByteArray) (k : Nat) : Int := if 12 < wEnd s k - k then -1 else (wEnd s k : Int)
theorem wordTo_long {s : ByteArray} {k0 k : Nat} (h : k = wEnd s k0) (h1 : 12 < (k : Int) - (k0 : Int)) : (-1 : Int) = wordTo s k0 := by unfold wordTo; rw [← h, if_pos (by omega)]
theorem wordTo_short {s : ByteArray} {k0 k : Nat} (h : k = wEnd s k0) (h1 : ¬ 12 < (k : Int) - (k0 : Int)) : (k : Int) = wordTo s k0 := by unfold wordTo; rw [← h, if_neg (by omega)]
def closeTo (s : ByteArray) (k : Nat) : Int := match tClose s k with | some e => (e : Int) | none => -1
theorem closeTo_some {s : ByteArray} {k e : Nat} (h : tClose s k = some e) : closeTo s k = e := by unfold closeTo; rw [h]
theorem closeTo_none {s : ByteArray} {k : Nat} (h : tClose s k = none) : closeTo s k = -1 := by unfold closeTo; rw [h]
def markTo (s : ByteArray) (k : Nat) : Int := if mLen s k = 0 then -1 else ((k + mLen s k : Nat) : Int)
def cutKind (c : UInt8) : Int := if isDig c = true then 2 else if isLet c = true then 1 else if c.toNat = 34 then 3 else 4
def cutEnd (s : ByteArray) (k : Nat) : Int :=
  if h : k < s.size then
    if isWord s[k] = true then wordTo s k
    else if s[k].toNat = 34 then closeTo s (k + 1)
    else markTo s k
  else -1
theorem cutEnd_word {s : ByteArray} {k : Nat} (h : k < s.size) (hw : isWord s[k] = true) : cutEnd s k = if 12 < wEnd s k - k then -1 else (wEnd s k : Int) := by rw [cutEnd, dif_pos h, if_pos hw]; rfl
theorem cutEnd_text {s : ByteArray} {k : Nat} (h : k < s.size) (hw : isWord s[k] = false) (hq : s[k].toNat = 34) : cutEnd s k = match tClose s (k + 1) with | some e => (e : Int) | none => -1 := by rw [cutEnd, dif_pos h, if_neg (by simp [hw]), if_pos hq]; rfl
theorem cutEnd_mark {s : ByteArray} {k : Nat} (h : k < s.size) (hw : isWord s[k] = false) (hq : ¬ s[k].toNat = 34) : cutEnd s k = if mLen s k = 0 then -1 else ((k + mLen s k : Nat) : Int) := by rw [cutEnd, dif_pos h, if_neg (by simp [hw]), if_neg hq]; rfl
theorem cutEnd_room {s : ByteArray} {k : Nat} (h : 0 ≤ cutEnd s k) : (k : Int) + 1 ≤ cutEnd s k ∧ cutEnd s k ≤ s.size ∧ k < s.size := by
  by_cases hk : k < s.size
  · refine ⟨?_, ?_, hk⟩ <;>
    · cases hw : isWord s[k]
      · by_cases hq : s[k].toNat = 34
        · rw [cutEnd_text hk hw hq] at h ⊢
          cases hc : tClose s (k + 1) with
          | none => rw [hc] at h; exact absurd h (by decide)
          | some e => have := tClose_some hc; show _ ≤ _; simp only; omega
        · rw [cutEnd_mark hk hw hq] at h ⊢
          have := mLen_room hk
          split at h
          · omega
          · rename_i h0; rw [if_neg h0]; omega
      · rw [cutEnd_word hk hw] at h ⊢
        have h1 := wEnd_bounds s (k + 1)
        rw [← wEnd_in hk hw] at h1
        have := h1.2 (by omega)
        split at h
        · omega
        · rename_i h0; rw [if_neg h0]; omega
  · rw [cutEnd, dif_neg hk] at h; omega
theorem cutEnd_ge (s : ByteArray) (k : Nat) : cutEnd s k < 0 ∨ ∃ e : Nat, cutEnd s k = e ∧ k < e ∧ e ≤ s.size := by
  by_cases h : cutEnd s k < 0
  · exact .inl h
  · have := cutEnd_room (s := s) (k := k) (by omega)
    exact .inr ⟨(cutEnd s k).toNat, by omega, by omega, by omega⟩

/-- What the model's cut answers. -/
def sCut (s : ByteArray) (k : Nat) : Int × Int :=
  if h : k < s.size then
    if isWord s[k] = true then (if isLet s[k] = true then 1 else 2, wEnd s (k + 1))
    else if s[k].toNat = 34 then (match tClose s (k + 1) with | some e => (3, (e : Int)) | none => (0, k))
    else (4, (k + mLen s k : Nat))
  else (0, k)
def SBad (k : Nat) (c : Int × Int) : Prop := c.2 = k ∨ c.1 = 0 ∨ (c.1 = 1 ∨ c.1 = 2) ∧ 12 < c.2 - k
theorem let_dig {c : UInt8} (h : isLet c = true) : isDig c = false := by
  rw [isLet_iff] at h
  cases hd : isDig c
  · rfl
  · rw [isDig_iff] at hd; omega
theorem sCut_word {s : ByteArray} {k : Nat} (h : k < s.size) (hw : isWord s[k] = true) : sCut s k = (if isLet s[k] = true then 1 else 2, (wEnd s (k + 1) : Int)) := by rw [sCut, dif_pos h, if_pos hw]
theorem sCut_closed {s : ByteArray} {k e : Nat} (h : k < s.size) (hw : isWord s[k] = false) (hq : s[k].toNat = 34) (hc : tClose s (k + 1) = some e) : sCut s k = (3, (e : Int)) := by rw [sCut, dif_pos h, if_neg (by simp [hw]), if_pos hq, hc]
theorem sCut_open {s : ByteArray} {k : Nat} (h : k < s.size) (hw : isWord s[k] = false) (hq : s[k].toNat = 34) (hc : tClose s (k + 1) = none) : sCut s k = (0, (k : Int)) := by rw [sCut, dif_pos h, if_neg (by simp [hw]), if_pos hq, hc]
theorem sCut_mark {s : ByteArray} {k : Nat} (h : k < s.size) (hw : isWord s[k] = false) (hq : ¬ s[k].toNat = 34) : sCut s k = (4, ((k + mLen s k : Nat) : Int)) := by rw [sCut, dif_pos h, if_neg (by simp [hw]), if_neg hq]
theorem sCut_bad {s : ByteArray} {k : Nat} (hk : k < s.size) (h : cutEnd s k < 0) : SBad k (sCut s k) := by
  unfold SBad
  cases hw : isWord s[k]
  · by_cases hq : s[k].toNat = 34
    · rw [cutEnd_text hk hw hq] at h
      cases hc : tClose s (k + 1) with
      | none => rw [sCut_open hk hw hq hc]; exact .inl rfl
      | some e => rw [hc] at h; simp only at h; omega
    · rw [cutEnd_mark hk hw hq] at h
      rw [sCut_mark hk hw hq]
      split at h
      · rename_i h0; left; simp only; omega
      · omega
  · rw [cutEnd_word hk hw] at h
    rw [sCut_word hk hw, ← wEnd_in hk hw]
    split at h
    · rename_i h0
      refine .inr (.inr ⟨?_, by simp only; omega⟩)
      simp only; split <;> simp
    · omega
theorem sCut_good {s : ByteArray} {k : Nat} (hk : k < s.size) (h : 0 ≤ cutEnd s k) : ¬ SBad k (sCut s k) ∧ sCut s k = (cutKind s[k], cutEnd s k) := by
  have hr := cutEnd_room h
  unfold SBad
  cases hw : isWord s[k]
  · have hd : isDig s[k] = false := by unfold isWord at hw; simp only [Bool.or_eq_false_iff] at hw; exact hw.2
    have hl : isLet s[k] = false := by unfold isWord at hw; simp only [Bool.or_eq_false_iff] at hw; exact hw.1
    have hkind : cutKind s[k] = if s[k].toNat = 34 then 3 else 4 := by unfold cutKind; rw [if_neg (by simp [hd]), if_neg (by simp [hl])]
    by_cases hq : s[k].toNat = 34
    · rw [hkind, if_pos hq]
      rw [cutEnd_text hk hw hq] at h hr ⊢
      cases hc : tClose s (k + 1) with
      | none => rw [hc] at h; exact absurd h (by decide)
      | some e =>
        have := tClose_some hc
        rw [sCut_closed hk hw hq hc]
        refine ⟨?_, rfl⟩
        simp only; omega
    · rw [hkind, if_neg hq]
      rw [cutEnd_mark hk hw hq] at h hr ⊢
      rw [sCut_mark hk hw hq]
      split at h
      · omega
      · rename_i h0
        rw [if_neg h0] at hr ⊢
        refine ⟨?_, rfl⟩
        simp only; omega
  · have hkind : cutKind s[k] = if isLet s[k] = true then 1 else 2 := by
      unfold cutKind
      cases hl : isLet s[k]
      · have hd : isDig s[k] = true := by unfold isWord at hw; rw [hl] at hw; simpa using hw
        rw [if_pos hd]; rfl
      · rw [if_neg (by simp [let_dig hl]), if_pos rfl, if_pos rfl]
    rw [hkind]
    rw [cutEnd_word hk hw] at h hr ⊢
    rw [sCut_word hk hw, ← wEnd_in hk hw]
    split at h
    · omega
    · rename_i h0
      rw [if_neg h0] at hr ⊢
      refine ⟨?_, rfl⟩
      simp only; split <;> omega

def toks (s : ByteArray) (k : Nat) (sp : Bool) (n : Nat) : Option (List Tok) :=
  if h : k < s.size then
    if s[k].toNat = 32 then toks s (k + 1) true n
    else if cutEnd s k < 0 ∨ n = 60 then none
    else (toks s (max (k + 1) (cutEnd s k).toNat) false (n + 1)).map (⟨cutKind s[k], s.extract k (cutEnd s k).toNat, sp, []⟩ :: ·)
  else some []
termination_by s.size - k
/-- What has come out when the place k is reached. -/
def AtT (s : ByteArray) (k : Nat) (sp : Bool) (out : List Tok) : Prop := (toks s k sp out.length).map (out ++ ·) = toks s 0 false 0 ∧ out.length ≤ 60
theorem AtT.zero (s : ByteArray) : AtT s 0 false [] := ⟨by simp, by simp⟩
theorem AtT.space {s : ByteArray} {k : Nat} {sp : Bool} {out : List Tok} (h : AtT s k sp out) (hk : k < s.size) (hc : s[k].toNat = 32) : AtT s (k + 1) true out :=
  ⟨by rw [← h.1, toks.eq_def s k, dif_pos hk, if_pos hc], h.2⟩
theorem AtT.bad {s : ByteArray} {k : Nat} {sp : Bool} {out : List Tok} (h : AtT s k sp out) (hk : k < s.size) (hc : ¬ s[k].toNat = 32) (hb : cutEnd s k < 0 ∨ out.length = 60) : toks s 0 false 0 = none := by
  rw [← h.1, toks, dif_pos hk, if_neg hc, if_pos hb]; rfl
theorem AtT.tok {s : ByteArray} {k e : Nat} {sp : Bool} {out : List Tok} (h : AtT s k sp out) (hk : k < s.size) (hc : ¬ s[k].toNat = 32) (he : cutEnd s k = e) (hn : out.length ≠ 60) : AtT s e false (out ++ [⟨cutKind s[k], s.extract k e, sp, []⟩]) := by
  have hr := cutEnd_room (s := s) (k := k) (by omega)
  refine ⟨?_, by have := h.2; simp; omega⟩
  rw [← h.1, toks.eq_def s k, dif_pos hk, if_neg hc, if_neg (by omega), he, Int.toNat_natCast, Nat.max_eq_right (by omega), Option.map_map]
  rw [List.length_append]
  congr 1
  funext x
  simp
theorem AtT.done {s : ByteArray} {k : Nat} {sp : Bool} {out : List Tok} (h : AtT s k sp out) (hk : s.size ≤ k) : toks s 0 false 0 = some out := by
  rw [← h.1, toks, dif_neg (by omega)]; simp

def tokRes (s : ByteArray) : List Tok × Bool := if lineOk s = true then (match toks s 0 false 0 with | some l => (l, true) | none => ([], false)) else ([], false)
theorem tokRes_bad {s : ByteArray} (h : lineOk s = false) : tokRes s = ([], false) := by unfold tokRes; rw [if_neg (by simp [h])]
theorem tokRes_none {s : ByteArray} (h : toks s 0 false 0 = none) : tokRes s = ([], false) := by unfold tokRes; rw [h]; split <;> rfl
theorem tokRes_some {s : ByteArray} {l : List Tok} (h0 : lineOk s = true) (h : toks s 0 false 0 = some l) : tokRes s = (l, true) := by unfold tokRes; rw [if_pos h0, h]
/-- Tokens as they come out of a line: small texts, nothing hidden. -/
def Fresh (B : Nat) (l : List Tok) : Prop := ∀ t ∈ l, t.text.size ≤ B ∧ t.hidden = [] ∧ 1 ≤ t.kind ∧ t.kind ≤ 4
theorem cutKind_in (c : UInt8) : 1 ≤ cutKind c ∧ cutKind c ≤ 4 := by unfold cutKind; split <;> (try split) <;> (try split) <;> omega
theorem Fresh.nil (B : Nat) : Fresh B [] := by intro t h; simp at h
theorem Fresh.snoc {B : Nat} {l : List Tok} {s : ByteArray} {k e : Nat} {sp : Bool} {c : UInt8} (h : Fresh B l) (hB : s.size ≤ B) : Fresh B (l ++ [⟨cutKind c, s.extract k e, sp, []⟩]) := by
  intro t ht
  rcases List.mem_append.1 ht with ht | ht
  · exact h t ht
  · have := cutKind_in c
    obtain rfl := List.mem_singleton.1 ht
    exact ⟨by show (s.extract k e).size ≤ B; rw [ByteArray.size_extract]; omega, rfl, this⟩

end Go.Proofs.Ytbkmapaieillmaa

/- TokenValid: no program. -/
namespace Go.Proofs.Ytbkmapaieillmaa
open Go.RowKit

theorem bytesLess_flip : ∀ (x y : List UInt8), Op.bytesLess x y = !(Op.bytesLess y x || y == x)
  | [], [] => rfl
  | _ :: _, [] => by simp [Op.bytesLess]
  | [], _ :: _ => by simp [Op.bytesLess]
  | a :: x, b :: y => by
    have ih := bytesLess_flip x y
    simp only [Op.bytesLess, ih]
    by_cases h : a = b
    · subst h
      have h1 : decide (a < a) = false := by simp [UInt8.lt_irrefl]
      rw [h1]
      cases hL : Op.bytesLess y x <;> by_cases hE : y = x <;> simp [hE]
    · have h2 : (a == b) = false := by simp [h]
      have h3 : (b == a) = false := by simp [Ne.symm h]
      have h4 : ((b :: y) == (a :: x)) = false := by simp [Ne.symm h]
      rw [h2, h3, h4]
      have : decide (a < b) = !decide (b < a) := by
        by_cases hl : a < b
        · have := UInt8.lt_asymm hl; simp [hl, this]
        · have : b < a := by
            rw [UInt8.lt_iff_toNat_lt] at hl ⊢
            have : a.toNat ≠ b.toNat := fun e => h (UInt8.toNat_inj.1 e)
            omega
          simp [hl, this]
      rw [this]; simp

/-- Texts in order. -/
def sLess (a b : ByteArray) : Bool := Op.bytesLess a.toList b.toList
theorem sLess_no {a b : ByteArray} (h : sLess a b = false) : (Op.bytesLess b.toList a.toList || b.toList == a.toList) = true := by
  unfold sLess at h; rw [bytesLess_flip] at h; cases hx : (Op.bytesLess b.toList a.toList || b.toList == a.toList)
  · rw [hx] at h; exact absurd h (by decide)
  · rfl
theorem sLess_yes {a b : ByteArray} (h : sLess a b = true) : (Op.bytesLess b.toList a.toList || b.toList == a.toList) = false := by
  unfold sLess at h; rw [bytesLess_flip] at h; simpa using h

/-- The first token begins where the line begins, or its text is shorter. -/
theorem toks_fit (s : ByteArray) : ∀ (k : Nat) (sp : Bool) (n : Nat) (l : List Tok), toks s k sp n = some l → k ≤ s.size → ∀ t ∈ l, t.text.size ≤ s.size - k := by
  intro k sp n
  induction k, sp, n using toks.induct (s := s) with
  | case1 k sp n hk h32 ih =>
    intro l h hks t ht
    rw [toks, dif_pos hk, if_pos h32] at h
    have := ih l h (by omega) t ht
    omega
  | case2 k sp n hk h32 hb =>
    intro l h hks t ht
    rw [toks, dif_pos hk, if_neg h32, if_pos hb] at h
    exact absurd h (by simp)
  | case3 k sp n hk h32 hb ih =>
    intro l h hks t ht
    rw [toks, dif_pos hk, if_neg h32, if_neg hb] at h
    have hr := cutEnd_room (s := s) (k := k) (by omega)
    rw [Option.map_eq_some_iff] at h
    obtain ⟨l', h1, rfl⟩ := h
    rcases List.mem_cons.1 ht with rfl | ht
    · show (s.extract k (cutEnd s k).toNat).size ≤ _; rw [ByteArray.size_extract]; omega
    · have := ih l' h1 (by omega) t ht
      omega
  | case4 k sp n hk =>
    intro l h hks t ht
    rw [toks, dif_neg hk] at h
    simp only [Option.some.injEq] at h
    subst h; simp at ht
theorem toks_first {s : ByteArray} {t : Tok} {l : List Tok} (h : toks s 0 false 0 = some (t :: l)) (ht : t.text = s) : t.spaced = false := by
  by_cases h0 : 0 < s.size
  · by_cases h32 : s[0].toNat = 32
    · rw [toks, dif_pos h0, if_pos h32] at h
      have := toks_fit s 1 true 0 _ h (by omega) t (by simp)
      rw [ht] at this
      omega
    · rw [toks, dif_pos h0, if_neg h32] at h
      split at h
      · simp at h
      · rw [Option.map_eq_some_iff] at h
        obtain ⟨l', _, h2⟩ := h
        simp only [List.cons.injEq] at h2
        rw [← h2.1]
  · rw [toks, dif_neg h0] at h; simp at h
theorem tokRes_true {s : ByteArray} {l : List Tok} (h : tokRes s = (l, true)) : toks s 0 false 0 = some l ∧ lineOk s = true := by
  unfold tokRes at h
  cases h0 : lineOk s
  · rw [h0, if_neg (by simp)] at h; simp at h
  · rw [h0, if_pos rfl] at h
    cases h1 : toks s 0 false 0 with
    | none => rw [h1] at h; simp at h
    | some l' => rw [h1] at h; simp at h; rw [h]; exact ⟨rfl, rfl⟩
theorem tokRes_false {s : ByteArray} {l : List Tok} (h : tokRes s = (l, false)) : l = [] := by
  unfold tokRes at h
  split at h
  · split at h
    · simp at h
    · simp at h; exact h
  · simp at h; exact h

/-- A text is one token of a kind. -/
def oneTok (x : ByteArray) (k : Int) : Bool := (tokRes x).2 && decide ((tokRes x).1.length = 1) && (tokRes x).1.all (fun t => decide (t.kind = k) && decide (t.text = x))
/-- The ways of a text. -/
theorem one_ways (x : ByteArray) (k : Int) :
    (tokRes x = ([], false) ∧ Hid (oneTok x k = false)) ∨
    (∃ l, tokRes x = (l, true) ∧ l.length ≠ 1 ∧ Hid (oneTok x k = false)) ∨
    (∃ t, tokRes x = ([t], true) ∧ t.kind ≠ k ∧ Hid (oneTok x k = false)) ∨
    (∃ t, tokRes x = ([t], true) ∧ t.kind = k ∧ t.text ≠ x ∧ Hid (oneTok x k = false)) ∨
    (∃ t, tokRes x = ([t], true) ∧ t.kind = k ∧ t.text = x ∧ t.spaced = false ∧ Hid (oneTok x k = true)) := by
  rcases hr : tokRes x with ⟨l, ok⟩
  cases ok
  · obtain rfl := tokRes_false hr
    exact .inl ⟨rfl, by simp [Hid, oneTok, hr]⟩
  · by_cases h1 : l.length = 1
    · obtain ⟨t, rfl⟩ := List.length_eq_one_iff.1 h1
      by_cases h2 : t.kind = k
      · by_cases h3 : t.text = x
        · exact .inr (.inr (.inr (.inr ⟨t, rfl, h2, h3, toks_first (tokRes_true hr).1 h3, by simp [Hid, oneTok, hr, h2, h3]⟩)))
        · exact .inr (.inr (.inr (.inl ⟨t, rfl, h2, h3, by simp [Hid, oneTok, hr, h2, h3]⟩)))
      · exact .inr (.inr (.inl ⟨t, rfl, h2, by simp [Hid, oneTok, hr, h2]⟩))
    · exact .inr (.inl ⟨l, rfl, h1, by simp [Hid, oneTok, hr, h1]⟩)

/-- The name i of a row is a name, and stands behind the one before. -/
def hidOkAt (l : List ByteArray) (i : Nat) : Bool := if h : i < l.length then oneTok l[i] 1 && (decide (i = 0) || sLess (l[i - 1]'(by omega)) l[i]) else true
def hidOk (l : List ByteArray) : Bool := decide (l.length ≤ 60) && (List.range l.length).all (hidOkAt l)
def HidUpto (l : List ByteArray) (k : Nat) : Prop := ∀ j, j < k → hidOkAt l j = true
theorem HidUpto.zero (l : List ByteArray) : HidUpto l 0 := by intro j h; omega
theorem HidUpto.succ {l : List ByteArray} {k : Nat} (h : HidUpto l k) (h1 : hidOkAt l k = true) : HidUpto l (k + 1) := by
  intro j hj
  by_cases e : j = k
  · subst e; exact h1
  · exact h j (by omega)
theorem hidOk_long {l : List ByteArray} (h : 60 < l.length) : hidOk l = false := by unfold hidOk; rw [decide_eq_false (by omega)]; rfl
theorem hidOk_no {l : List ByteArray} {k : Nat} (hk : k < l.length) (h : hidOkAt l k = false) : hidOk l = false := by
  unfold hidOk
  have : (List.range l.length).all (hidOkAt l) = false := by
    rw [List.all_eq_false]; exact ⟨k, by simpa using hk, by simp [h]⟩
  rw [this, Bool.and_false]
theorem hidOk_yes {l : List ByteArray} {k : Nat} (h : HidUpto l k) (hk : l.length ≤ k) (hl : l.length ≤ 60) : hidOk l = true := by
  unfold hidOk
  rw [decide_eq_true hl, Bool.true_and, List.all_eq_true]
  intro i hi
  have : i < l.length := by simpa using hi
  exact h i (by omega)
theorem hidAt_name {l : List ByteArray} {k : Nat} (hk : k < l.length) (h : oneTok l[k] 1 = false) : hidOkAt l k = false := by unfold hidOkAt; rw [dif_pos hk, h]; rfl
theorem hidAt_less {l : List ByteArray} {k : Nat} (hk : k < l.length) (h0 : 0 < k) (h : sLess (l[k - 1]'(by omega)) l[k] = false) : hidOkAt l k = false := by
  unfold hidOkAt; rw [dif_pos hk, h, decide_eq_false (by omega)]; simp
theorem hidAt_first {l : List ByteArray} (hk : 0 < l.length) (h : oneTok l[0] 1 = true) : hidOkAt l 0 = true := by unfold hidOkAt; rw [dif_pos hk, h]; simp
theorem hidAt_later {l : List ByteArray} {k : Nat} (hk : k < l.length) (h0 : 0 < k) (h : oneTok l[k] 1 = true) (h2 : sLess (l[k - 1]'(by omega)) l[k] = true) : hidOkAt l k = true := by
  unfold hidOkAt; rw [dif_pos hk, h, h2]; simp
/-- The ways of the name k. -/
theorem hid_ways {l : List ByteArray} {k : Nat} (hk : k < l.length) :
    (oneTok l[k] 1 = false ∧ Hid (hidOkAt l k = false)) ∨ (oneTok l[k] 1 = true ∧ k = 0 ∧ Hid (hidOkAt l k = true)) ∨
    (∃ hp : 0 < k, oneTok l[k] 1 = true ∧ sLess (l[k - 1]'(by omega)) l[k] = false ∧ Hid (hidOkAt l k = false)) ∨
    (∃ hp : 0 < k, oneTok l[k] 1 = true ∧ sLess (l[k - 1]'(by omega)) l[k] = true ∧ Hid (hidOkAt l k = true)) := by
  cases h : oneTok l[k] 1
  · exact .inl ⟨rfl, hidAt_name hk h⟩
  · by_cases h0 : k = 0
    · subst h0; exact .inr (.inl ⟨rfl, rfl, hidAt_first hk h⟩)
    · cases h2 : sLess (l[k - 1]'(by omega)) l[k]
      · exact .inr (.inr (.inl ⟨by omega, rfl, h2, hidAt_less hk (by omega) h2⟩))
      · exact .inr (.inr (.inr ⟨by omega, rfl, h2, hidAt_later hk (by omega) h h2⟩))

def tokOk (t : Tok) : Bool := oneTok t.text t.kind && hidOk t.hidden

end Go.Proofs.Ytbkmapaieillmaa

/- Tokens in memory. -/
namespace Go.Proofs.Ytbkmapaieillmaa
open Go.RowKit Go.ChangeShapes Go.WideShapes Go.Deep Go.Joins

def sTok : Shape Tok where
  m := 4
  R w cs d fp := ∃ h, cs = [.int .i64 d.kind, .string d.text, .bool d.spaced, h] ∧ okInt d.kind ∧ okStr d.text ∧ (sSlice sStr).R w [h] d.hidden fp
  frame := by
    rintro w w' cs d fp hf ⟨h, h1, h2, h3, h4⟩
    exact ⟨h, h1, h2, h3, (sSlice sStr).frame hf h4⟩
  lt := by
    rintro w cs d fp ⟨h, h1, h2, h3, h4⟩
    exact (sSlice sStr).lt h4

theorem ti_tok : TI Try.prog 31 25 (.agg #[.int .i64 0, .string ⟨#[]⟩, .bool false, .slice none 0 0]) 4 56 := ⟨by kernel_rfl, by kernel_rfl⟩

/-- The cells of a token with nothing hidden. -/
def freshCells (t : Tok) : List Value := [.int .i64 t.kind, .string t.text, .bool t.spaced, .slice none 0 0]
/-- A row of such tokens of the call's own. -/
def TokRow (base : Nat) (v : Value) (l : List Tok) (w : World) : Prop := w.ownsRow base 25 4 v l.length (l.flatMap freshCells)
theorem TokRow.nil (base : Nat) (w : World) : TokRow base (.slice none 0 0) [] w := World.ownsRow_nil _ _ _ _
theorem TokRow.drew {base : Nat} {v : Value} {l : List Tok} {w : World} (h : TokRow base v l w) (n : Nat) : TokRow base v l (w.drewN n) := h
theorem TokRow.slice {base : Nat} {v : Value} {l : List Tok} {w : World} (h : TokRow base v l w) : ∃ a cap, v = .slice a l.length cap ∧ cap ≤ maxLen := by
  rcases h.2 with ⟨rfl, h0⟩ | ⟨g, cap, cur, rfl, _, _, _, hc, _⟩
  · exact ⟨none, 0, by rw [h0], by simp⟩
  · exact ⟨_, cap, rfl, hc⟩
theorem TokRow.mine {base : Nat} {v : Value} {l : List Tok} {w : World} (h : TokRow base v l w) : ∀ b, v.ownBlock = some b → base ≤ b := fun b hb => (h.lt b hb).1
theorem wp_append_tok {w0 : World} {ops : Array Oper} {rest : List Oper} {o : Oper} {a : Act} {Q : Exit → Act → World → Prop} (hg : o.guard = none) (s y : Operand)
    (ho : o.op = .call { callee := .builtin .append, args := #[s, y], argTypes := #[31, 31] })
    (base : Nat) (v : Value) (l : List Tok) (k : Int) (x : ByteArray) (b : Bool) (hs : a.eval s = v) (hown : TokRow base v l w0) (hy : a.eval y = .slice (some ⟨w0.heap.size, 0, none⟩) 1 1) (h63 : l.length ≤ 1000000) (hbase : base ≤ w0.heap.size)
    (h : ∀ v' w', TokRow base v' (l ++ [⟨k, x, b, []⟩]) w' → w0.grownBy w' v.ownBlock → wpList Try.prog ops Q rest (a.put o.dst v') w') : wpList Try.prog ops Q (o :: rest) a (w0.alloc (.cells #[.int .i64 k, .string x, .bool b, .slice none 0 0] 25)) := by
  refine wp_append_cells ti_tok rfl (by decide) w0 (l.flatMap freshCells) [.int .i64 k, .string x, .bool b, .slice none 0 0] rfl (by simp [Value.oneCell']) hg s y ho base v l.length hs hown hy (by unfold maxLen; omega) (by omega) hbase fun v' w' h1 h2 => h v' w' ?_ h2
  unfold TokRow
  rw [List.length_append, List.flatMap_append]
  exact h1
theorem own_toks {w : World} {base : Nat} {v : Value} {l : List Tok} {B : Nat} (h : TokRow base v l w) (hf : Fresh B l) (hB : B ≤ 1000000) :
    ∃ fp, (sSlice sTok).R w [v] l fp ∧ Own w base fp ∧ ∀ b ∈ fp, v.ownBlock = some b := by
  have hL : (l.map fun t => (⟨freshCells t, t, []⟩ : Elem Tok)).flatMap (·.cells) = l.flatMap freshCells := by rw [List.flatMap_map]
  have hF : (l.map fun t => (⟨freshCells t, t, []⟩ : Elem Tok)).flatMap (·.fp) = [] := by rw [List.flatMap_map]; simp
  have hD : (l.map fun t => (⟨freshCells t, t, []⟩ : Elem Tok)).map (·.d) = l := by rw [List.map_map]; exact List.map_id _
  obtain ⟨fp, h1, h2, h3⟩ := slice_of_row (S := sTok) (w := w) (base := base) (e := 25) (v := v) (L := l.map fun t => ⟨freshCells t, t, []⟩) (by rw [hL, List.length_map]; exact h) (by
    intro x hx
    obtain ⟨t, ht, rfl⟩ := List.mem_map.1 hx
    obtain ⟨a1, a2, a3, a4⟩ := hf t ht
    have b1 : okInt t.kind := ⟨by omega, by omega⟩
    have b2 : okStr t.text := by unfold okStr maxLen; omega
    have b3 : (sSlice sStr).R w [.slice none 0 0] t.hidden [] := by rw [a2]; exact slice_empty sStr w none 0 (by simp)
    exact ⟨rfl, _, rfl, b1, b2, b3⟩)
  rw [hD] at h1
  rw [hF] at h2 h3
  exact ⟨fp, h1, h3 (Own.nil _ _) (by simp), fun b hb => by rcases h2 b hb with h | h; exact h; simp at h⟩

/-- What TokensOf hands back. -/
def TokMade (r : List Tok × Bool) (w : World) (e : Ending) (w' : World) : Prop :=
  ∃ v fp, e = .returned (.tuple #[v, .bool r.2]) ∧ (sSlice sTok).R w' [v] r.1 fp ∧ Own w' w.heap.size fp ∧ Below w.heap.size w w'

section
variable {H : Type} {enc : TypeId × Value → H} {P : Program} {w : World} {base : Nat} {spare : Nat → Bool} {held : Bool}
theorem opens_tok {t : TypeId} {f0 f1 f2 f3 : Field} (hs : P.underlying t = some (.struct #[f0, f1, f2, f3])) (hone : oneCellFields P #[f0, f1, f2, f3] = true) (hC : P.cellsOf t = 4)
    (h0 : Opens enc P w base spare held f0.type sInt) (h1 : Opens enc P w base spare held f1.type sStr) (h2 : Opens enc P w base spare held f2.type sBool) (h3 : Opens enc P w base spare held f3.type (sSlice sStr)) : Opens enc P w base spare held t sTok := by
  intro fuel cs x h
  obtain ⟨xs, n, _, hx, hcl, hlen, hg⟩ := DataW.trod_struct hs h
  rw [hC] at hcl
  match cs, hcl with
  | [c0, c1, c2, c3], _ =>
    obtain ⟨o0, k0⟩ := hone_of hone 0 f0 rfl
    obtain ⟨o1, k1⟩ := hone_of hone 1 f1 rfl
    obtain ⟨o2, k2⟩ := hone_of hone 2 f2 rfl
    obtain ⟨o3, k3⟩ := hone_of hone 3 f3 rfl
    have g0 := hg 0 f0 rfl
    have g1 := hg 1 f1 rfl
    have g2 := hg 2 f2 rfl
    have g3 := hg 3 f3 rfl
    rw [o0, k0] at g0; rw [o1, k1] at g1; rw [o2, k2] at g2; rw [o3, k3] at g3
    match xs, hlen with
    | [y0, y1, y2, y3], _ =>
      obtain ⟨d0, p0, hc0, hok0, rfl⟩ := h0 n _ _ g0
      obtain ⟨d1, p1, hc1, hok1, rfl⟩ := h1 n _ _ g1
      obtain ⟨d2, p2, hc2, _, rfl⟩ := h2 n _ _ g2
      obtain ⟨d3, p3, hc3⟩ := h3 n _ _ g3
      simp at hc0 hc1 hc2 hc3
      subst hc0; subst hc1; subst hc2
      exact ⟨⟨d0, d1, d2, d3⟩, p3, c3, rfl, hok0, hok1, hc3⟩
end

end Go.Proofs.Ytbkmapaieillmaa

/- Tokens and the law's own helpers. -/
namespace Go.Proofs.Ytbkmapaieillmaa
open Go.RowKit

def mkToken (k : Int) (x : Tok) : Tok := ⟨k, mtext (k + 1), (k + 1 + 1) % 3 == 0, marks mtext (k + 1 + 1 + 1) x.hidden.length⟩
def cntToken (x : Tok) : Nat := 3 + x.hidden.length
def mkTokenS (k : Int) (l : List Tok) : List Tok := mkAll mkToken cntToken k l
def cntTokenS (l : List Tok) : Nat := cntAll cntToken l

set_option maxHeartbeats 1000000 in
theorem eqToken_same (cs1 cs2 : List Value) (x : Tok) (fp1 fp2 : List Nat) (w : World) (H1 : sTok.R w cs1 x fp1) (H2 : sTok.R w cs2 x fp2) :
    Calls Try.prog 20 #[.agg cs1.toArray, .agg cs2.toArray] w fun e w' => e = .returned (.bool true) ∧ Below w.heap.size w w' := by
  obtain ⟨h1, rfl, _, _, K1⟩ := H1
  obtain ⟨h2, rfl, _, _, K2⟩ := H2
  have b0 := alloc_below' w (.cells #[.int .i64 x.kind, .string x.text, .bool x.spaced, h1] 25)
  have b1 := b0.trans ((alloc_below' (w.alloc (.cells #[.int .i64 x.kind, .string x.text, .bool x.spaced, h1] 25)) (.cells #[.int .i64 x.kind, .string x.text, .bool x.spaced, h2] 25)).mono b0.size)
  have HC : Hid (∀ W, Below w.heap.size w W → Calls Try.prog 50 #[h1, h2] W fun e w' => e = .returned (.bool true) ∧ Below W.heap.size W w') := fun W hb => eqStringS_same h1 h2 x.hidden fp1 fp2 W ((sSlice sStr).below K1 hb) ((sSlice sStr).below K2 hb)
  have e1 : (x.kind != x.kind) = false := by simp
  have e2 := bytes_beq (rfl : x.text = x.text)
  have e3 : (x.spaced != x.spaced) = false := by simp
  go_enter Try.func20, Try.ntmps20
  go_wp2_with (go_at_call 50; refine (HC.out _ b1).mono ?_; rintro e w1 ⟨rfl, hb1⟩)
  go_ret
  exact ⟨rfl, b1.trans (hb1.mono b1.size)⟩

set_option maxHeartbeats 4000000 in
set_option maxRecDepth 100000 in
theorem eqTokenS_same (v1 v2 : Value) (l : List Tok) (fp1 fp2 : List Nat) (w : World) (H1 : (sSlice sTok).R w [v1] l fp1) (H2 : (sSlice sTok).R w [v2] l fp2) :
    Calls Try.prog 25 #[v1, v2] w fun e w' => e = .returned (.bool true) ∧ Below w.heap.size w w' := by
  obtain ⟨a1, cap1, rfl, hc1, hm1, hrow1⟩ := open_rows H1
  obtain ⟨a2, cap2, rfl, hc2, hm2, hrow2⟩ := open_rows H2
  unfold maxLen at hm1 hm2
  have hnb : ((l.length : Int) != (l.length : Int)) = false := by simp
  go_enter Try.func25, Try.ntmps25
  go_wp2
  go_loopw [5] (fun i wr => ∃ k : Nat, k ≤ l.length ∧ i = .int .i64 k ∧ Below w.heap.size w wr) (fun i _ => l.length - (intOf i).toNat)
  case atStart => exact ⟨0, by omega, rfl, Below.refl _ _⟩
  case round =>
    obtain ⟨k, hk, rfl, hb⟩ := hrel
    by_cases hlt : k < l.length
    · obtain ⟨b1, off1, fps1, rfl, hb1, rfl, he1⟩ := hrow1 (by omega)
      obtain ⟨b2, off2, fps2, rfl, hb2, rfl, he2⟩ := hrow2 (by omega)
      obtain ⟨es1, hE1, hR1⟩ := he1 k hlt
      obtain ⟨es2, hE2, hR2⟩ := he2 k hlt
      clear hrow1 hrow2 he1 he2 H1 H2
      have hR1' := hR1
      have hR2' := hR2
      obtain ⟨h1, rfl, _, _, K1⟩ := hR1'
      obtain ⟨h2, rfl, _, _, K2⟩ := hR2'
      have hE1' := hE1.frame (hb.block b1 hb1)
      have hE2' := hE2.frame (hb.block b2 hb2)
      have HC : Hid (∀ W, Below wr.heap.size wr W → Calls Try.prog 20 #[.agg #[.int .i64 l[k].kind, .string l[k].text, .bool l[k].spaced, h1], .agg #[.int .i64 l[k].kind, .string l[k].text, .bool l[k].spaced, h2]] W fun e w' => e = .returned (.bool true) ∧ Below W.heap.size W w') := fun W hW => eqToken_same _ _ l[k] _ _ W (sTok.below (sTok.below hR1 hb) hW) (sTok.below (sTok.below hR2 hb) hW)
      have c10 : wr.cell? ⟨b1, off1 + k * 4, none⟩ = some _ := elem_cell0 hE1' (by decide) rfl
      have c11 : wr.cell? ⟨b1, off1 + k * 4 + 1, none⟩ = some _ := elem_cell (j := 1) hE1' (by decide) rfl
      have c12 : wr.cell? ⟨b1, off1 + k * 4 + 2, none⟩ = some _ := elem_cell (j := 2) hE1' (by decide) rfl
      have c13 : wr.cell? ⟨b1, off1 + k * 4 + 3, none⟩ = some _ := elem_cell (j := 3) hE1' (by decide) rfl
      have c20 : wr.cell? ⟨b2, off2 + k * 4, none⟩ = some _ := elem_cell0 hE2' (by decide) rfl
      have c21 : wr.cell? ⟨b2, off2 + k * 4 + 1, none⟩ = some _ := elem_cell (j := 1) hE2' (by decide) rfl
      have c22 : wr.cell? ⟨b2, off2 + k * 4 + 2, none⟩ = some _ := elem_cell (j := 2) hE2' (by decide) rfl
      have c23 : wr.cell? ⟨b2, off2 + k * 4 + 3, none⟩ = some _ := elem_cell (j := 3) hE2' (by decide) rfl
      go_wp2_with fail
      go_still_tail 8, (by kernel_rfl)
      change wpList _ _ _ _ _ wr.drew
      have hd : Below wr.heap.size wr wr.drew := belowN (Below.refl _ _) 1
      generalize wr.drew = w2 at *
      go_wp2_with (go_at_call 20; refine (HC.out _ hd).mono ?_; rintro e w3 ⟨rfl, hb3⟩)
      go_roundw
      case rel => exact ⟨k + 1, by omega, by go_num, (hb.trans (hd.mono hb.size)).trans (hb3.mono (Nat.le_trans hb.size hd.size))⟩
      case measure => simp [intOf]; omega
    · go_wp2
      go_ret
      exact ⟨rfl, hb⟩

set_option maxHeartbeats 4000000 in
set_option maxRecDepth 100000 in
theorem markTokenS (v : Value) (l : List Tok) (fp : List Nat) (lo : Nat) (k : Int) (w : World) (h0 : 0 ≤ k) (h1 : k + cntTokenS l ≤ 2305843009213693952) (H : (sSlice sTok).R w [v] l fp) (O : Own w lo fp) :
    Calls Try.prog 26 #[v, .int .i64 k] w (Marked (sSlice sTok) v (mkTokenS k l) fp lo (k + cntTokenS l) w) := by
  have HI := Lib.hid H
  obtain ⟨a, cap, rfl, hc, hm, hrow0⟩ := open_rows H
  have hm' := hm
  unfold maxLen at hm
  clear H hrow0
  go_enter Try.func26, Try.ntmps26
  go_wp2
  go_loopw [1, 5] (fun t i wr => ∃ (j : Nat) (L : List Tok) (kk : Int), j ≤ l.length ∧ i = .int .i64 j ∧ t = .int .i64 kk ∧ Hid (kk = k + cntAll cntToken (l.take j)) ∧ Hid (MkUpto mkToken cntToken k l j L) ∧ Hid ((sSlice sTok).R wr [.slice a l.length cap] L fp) ∧ Own wr lo fp ∧ Kept fp w wr) (fun _ i _ => l.length - (intOf i).toNat)
  case atStart => exact ⟨0, l, k, by omega, rfl, rfl, by show _ = _; simp [cntAll], MkUpto.zero _ _, HI.out, O, Kept.refl _ _⟩
  case round =>
    obtain ⟨j, L, kk, hj, rfl, rfl, HKK, HM, HR, HO, HK⟩ := hrel
    by_cases hlt : j < l.length
    · obtain ⟨a', cap', hv, hc', hm'', hrow⟩ := open_rows HR.out
      have hLl := HM.out.len
      obtain ⟨b, off, fps, hab, hb, hfp, he⟩ := hrow (by omega)
      simp only [Value.slice.injEq] at hv
      obtain ⟨rfl, hv2, rfl⟩ := hv
      subst hab
      clear hv2
      rw [hLl] at hfp
      subst hfp
      obtain ⟨es, hE, hR⟩ := he j (by omega)
      rw [HM.out.at hlt] at hR
      have hle := cntAll_le (c := cntToken) l (j + 1)
      rw [cntAll_take hlt] at hle
      have hKb : (0 : Int) ≤ kk ∧ kk + 3 + l[j].hidden.length ≤ 2305843009213693952 := by
        have := HKK.out
        unfold cntTokenS at h1
        have hc3 : cntToken l[j] = 3 + l[j].hidden.length := rfl
        omega
      obtain ⟨hk0, hk1⟩ := hKb
      have HX := Lib.hid (HM.out.succ hlt)
      have HXK : Hid (kk + 3 + l[j].hidden.length = k + cntAll cntToken (l.take (j + 1))) := by
        show _ = _
        rw [cntAll_take hlt]
        have := HKK.out
        have hc3 : cntToken l[j] = 3 + l[j].hidden.length := rfl
        omega
      rw [← HKK.out] at HX
      obtain ⟨h3, rfl, _, _, K3⟩ := hR
      have hnd := HO.1
      have hap := flat_apart hnd hlt
      have hbm : b ∈ b :: (List.range l.length).flatMap fps := by simp
      have Hrow : Hid (∀ (w' : World) (d : Tok) (es' : List Value), Turned b (off + j * sTok.m) (off + j * sTok.m + sTok.m) (fps j) wr w' → ElemAt w' b off sTok.m j es' → sTok.R w' es' d (fps j) → (sSlice sTok).R w' [.slice (some ⟨b, off, none⟩) l.length cap] (L.set j d) (b :: (List.range l.length).flatMap fps)) :=
        fun w' d es' hT h1 h2 => row_turned hLl hc hm' hb he hlt hnd hT h1 h2
      clear he hrow hc' hm'' hle h1 hLl
      have hm4 : sTok.m = 4 := rfl
      rw [hm4] at hE
      have HW0 := Lib.hid (Wr.start (fpj := fps j) hE HO hb hbm hap.1)
      have c0 := HW0.out.cell0 (by decide) rfl
      have f0 := HW0.out.frozen (off + j * 4)
      go_wp2_with fail
      refine (markText _ _ (by omega)).mono ?_
      rintro e W2 ⟨rfl, hb2⟩
      have HW1 := Lib.hid ((HW0.out.set0 (by decide) (.int .i64 kk)).below hb2)
      have K31 := (sSlice sStr).below ((sSlice sStr).setB K3 hap.1 (off + j * 4) (.int .i64 kk)) hb2
      have c1 := HW1.out.cell 1 (by decide) rfl
      have f1 := HW1.out.frozen (off + j * 4 + 1)
      have HW2 := Lib.hid (HW1.out.set 1 (by decide) (.string (mtext (kk + 1))))
      have K32 := (sSlice sStr).setB K31 hap.1 (off + j * 4 + 1) (.string (mtext (kk + 1)))
      have c2 := HW2.out.cell 2 (by decide) rfl
      have f2 := HW2.out.frozen (off + j * 4 + 2)
      have HW3 := Lib.hid (HW2.out.set 2 (by decide) (.bool ((kk + 1 + 1) % 3 == 0)))
      have K33 := (sSlice sStr).setB K32 hap.1 (off + j * 4 + 2) (.bool ((kk + 1 + 1) % 3 == 0))
      have c3 := HW3.out.cell 3 (by decide) rfl
      have HN3 := Lib.hid (HW3.out.o.sub (flat_nodup hnd hlt) (flat_sub hlt))
      have HOK : Hid (okInt kk ∧ okStr (mtext (kk + 1))) := ⟨⟨by omega, by omega⟩, mtext_size (by omega)⟩
      clear c0 f0 hE hb2 K31 K32 HW1 HW0
      go_wp2_with fail
      refine (markStringS _ _ _ lo _ _ (by omega) (by omega) K33 HN3.out).mono ?_
      rintro e W5 ⟨rfl, R5, O5, hk5⟩
      have HW5 := Lib.hid (HW3.out.sub hk5 O5 (fun x hx => hx))
      clear hk5 c3 f1 f2 c1 c2 HW3 HW2 K33 HN3
      have HR5 := Lib.hid (Hrow.out W5 (mkToken kk l[j]) _ HW5.out.t HW5.out.e ⟨h3, rfl, HOK.out.1, HOK.out.2, R5⟩)
      have HK5 := Lib.hid (HK.trans (HW5.out.t.keptAll hlt))
      have HO5 := Lib.hid HW5.out.o
      have hk2 : kk + 1 + 1 + 1 + (l[j].hidden.length : Int) = kk + 3 + l[j].hidden.length := by omega
      clear Hrow HW5 R5 O5 HR HO HK hnd hap hb
      go_wp2
      go_roundw
      case rel => exact ⟨j + 1, _, _, by omega, by go_num, rfl, by show _ = _; have := HXK.out; omega, HX, HR5, HO5.out, HK5.out⟩
      case measure => simp [intOf]; omega
    · have HD := HM.out.done (by omega)
      have hjl : l.take j = l := List.take_of_length_le (by omega)
      have HKD := HKK.out
      rw [hjl] at HKD
      have HF := Lib.hid HKD
      have HRD := HR.out
      rw [HD] at HRD
      have HRF := Lib.hid HRD
      clear hjl HKD HRD HR HM HKK HD
      go_wp2
      go_ret
      exact ⟨by rw [HF.out]; rfl, HRF.out, HO, HK⟩

set_option maxHeartbeats 4000000 in
set_option maxRecDepth 100000 in
theorem heldTokenS (v : Value) (l : List Tok) (fp : List Nat) (k : Int) (w : World) (h0 : 0 ≤ k) (h1 : k + cntTokenS l ≤ 2305843009213693952) (H : (sSlice sTok).R w [v] (mkTokenS k l) fp) :
    Calls Try.prog 27 #[v, .int .i64 k] w fun e w' => e = .returned (.int .i64 (k + cntTokenS l)) ∧ Below w.heap.size w w' := by
  obtain ⟨a, cap, rfl, hc, hm, hrow⟩ := open_rows H
  have hml : (mkTokenS k l).length = l.length := mkAll_len _ _
  rw [hml] at hc ⊢
  unfold maxLen at hm
  have Hrow : Hid (∀ j, (hj : j < l.length) → ∃ b off fps h, a = some ⟨b, off, none⟩ ∧ b < w.heap.size ∧ ElemAt w b off 4 j [.int .i64 (k + cntAll cntToken (l.take j)), .string (mtext (k + cntAll cntToken (l.take j) + 1)), .bool ((k + cntAll cntToken (l.take j) + 1 + 1) % 3 == 0), h] ∧ (sSlice sStr).R w [h] (marks mtext (k + cntAll cntToken (l.take j) + 1 + 1 + 1) l[j].hidden.length) fps) := by
    intro j hj
    obtain ⟨b, off, fps, hab, hb, _, he⟩ := hrow (by omega)
    obtain ⟨es, hE, hR⟩ := he j (by rw [hml]; exact hj)
    have hg : (mkTokenS k l)[j]'(by rw [hml]; exact hj) = mkToken (k + cntAll cntToken (l.take j)) l[j] := mkAll_get k j hj
    rw [hg] at hR
    obtain ⟨h, rfl, _, _, K⟩ := hR
    exact ⟨b, off, fps j, h, hab, hb, hE, K⟩
  clear H hrow hml
  go_enter Try.func27, Try.ntmps27
  go_wp2
  go_loopw [1, 5] (fun t i wr => ∃ (j : Nat) (kk : Int), j ≤ l.length ∧ i = .int .i64 j ∧ t = .int .i64 kk ∧ Hid (kk = k + cntAll cntToken (l.take j)) ∧ Below w.heap.size w wr) (fun _ i _ => l.length - (intOf i).toNat)
  case atStart => exact ⟨0, k, by omega, rfl, rfl, by show _ = _; simp [cntAll], Below.refl _ _⟩
  case round =>
    obtain ⟨j, kk, hj, rfl, rfl, HKK, hbel⟩ := hrel
    by_cases hlt : j < l.length
    · obtain ⟨b, off, fpj, h, rfl, hb, hE, K⟩ := Hrow.out j hlt
      have hle := cntAll_le (c := cntToken) l (j + 1)
      rw [cntAll_take hlt] at hle
      have hKb : (0 : Int) ≤ kk ∧ kk + 3 + l[j].hidden.length ≤ 2305843009213693952 := by
        have := HKK.out
        unfold cntTokenS at h1
        have hc3 : cntToken l[j] = 3 + l[j].hidden.length := rfl
        omega
      obtain ⟨hk0, hk1⟩ := hKb
      have HXK : Hid (kk + 3 + l[j].hidden.length = k + cntAll cntToken (l.take (j + 1))) := by
        show _ = _
        rw [cntAll_take hlt]
        have := HKK.out
        have hc3 : cntToken l[j] = 3 + l[j].hidden.length := rfl
        omega
      rw [← HKK.out] at hE K
      replace hE := hE.frame (hbel.block b hb)
      replace K := (sSlice sStr).below K hbel
      have hbr : b < wr.heap.size := Nat.lt_of_lt_of_le hb hbel.size
      have c0 : wr.cell? ⟨b, off + j * 4, none⟩ = some _ := elem_cell0 hE (by decide) rfl
      have c1 : wr.cell? ⟨b, off + j * 4 + 1, none⟩ = some _ := elem_cell hE (by decide) rfl
      have c2 : wr.cell? ⟨b, off + j * 4 + 2, none⟩ = some _ := elem_cell hE (by decide) rfl
      have c3 : wr.cell? ⟨b, off + j * 4 + 3, none⟩ = some _ := elem_cell hE (by decide) rfl
      have e0 : (kk != kk) = false := by simp
      have e1 := bytes_beq (rfl : mtext (kk + 1) = mtext (kk + 1))
      have e2 : (((kk + 1 + 1) % 3 == 0) != ((kk + 1 + 1) % 3 == 0)) = false := by simp
      clear Hrow h1 hle
      go_wp2_with fail
      go_region_held3 (fun w' => w'.cell? ⟨b, off + j * 4 + 1, none⟩ = some (.string (mtext (kk + 1))))
        (first | go_keep | ((rw [hb2.cell (p := ⟨b, off + j * 4 + 1, none⟩) (by simp; omega)]; assumption)))
        (first | (go_at_call 53; refine (markText _ _ (by omega)).mono ?_; rintro e w2 ⟨rfl, hb2⟩))
      have hbw := hbel.drew.trans (hb2.mono hbel.size)
      have c2' : w2.cell? ⟨b, off + j * 4 + 2, none⟩ = some _ := (hb2.cell (p := ⟨b, off + j * 4 + 2, none⟩) (by simp; omega)).trans c2
      have c3' : w2.cell? ⟨b, off + j * 4 + 3, none⟩ = some _ := (hb2.cell (p := ⟨b, off + j * 4 + 3, none⟩) (by simp; omega)).trans c3
      have K2 := (sSlice sStr).below ((sSlice sStr).frame (w' := wr.drew) (fun _ _ => rfl) K) hb2
      clear c0 c1 c2 c3 K hE hb2
      go_wp2_with (go_at_call 52; refine (heldStringS _ _ _ _ _ (by omega) (by omega) K2).mono ?_; rintro e w3 ⟨rfl, hb3⟩)
      go_roundw
      case rel => exact ⟨j + 1, _, by omega, by go_num, rfl, by show _ = _; have := HXK.out; omega, hbw.trans (hb3.mono hbw.size)⟩
      case measure => simp [intOf]; omega
    · have hjl : l.take j = l := List.take_of_length_le (by omega)
      have HKD := HKK.out
      rw [hjl] at HKD
      have HF := Lib.hid HKD
      clear hjl HKD HKK
      go_wp2
      go_ret
      exact ⟨by rw [HF.out]; rfl, hbel⟩

end Go.Proofs.Ytbkmapaieillmaa
