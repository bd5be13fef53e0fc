/- Texts that the proof of U stands on, in one file. -/
import Derived.Test.YtiaiggjfepoahaaZU6
import Derived.Test.YtiaiggjfepoahaaZU1
import Derived.Lib.AppendStr
import Derived.Laws.IdiomStrings
import Derived.Test.YtiaiggjfepoahaaZU4
import Derived.Test.YtiaiggjfepoahaaZU3
import Derived.Test.YtiaiggjfepoahaaZU5
import Derived.Deep.Cut
set_option linter.unusedVariables false
set_option linter.unusedSimpArgs false
/- What slots hold in regions that draw their order, beside a reader. -/
namespace Go.Proofs.Ytiaiggjfepoahaa
open Go.RowKit

def StepsFrom (P : Program) (ops : Array Oper) (Rl : World → World → Prop) (Ps : List (Value → World → Prop)) (J : Nat → World → Prop) (a : Act) : Nat → List Oper → Prop
  | _, [] => True
  | i, o :: t => StepOk P ops Rl Ps J a i o ∧ StepsFrom P ops Rl Ps J a (i + 1) t
theorem steps_of {P : Program} {ops : Array Oper} {Rl : World → World → Prop} {Ps : List (Value → World → Prop)} {J : Nat → World → Prop} {a : Act} :
    ∀ (l : List Oper) (k : Nat), (∀ j, l[j]? = ops[k + j]?) → StepsFrom P ops Rl Ps J a k l → ∀ i o, k ≤ i → ops[i]? = some o → StepOk P ops Rl Ps J a i o := by
  intro l
  induction l with
  | nil =>
    intro k h _ i o hk hi
    have := h (i - k)
    rw [show k + (i - k) = i from by omega, hi] at this
    simp at this
  | cons x t ih =>
    intro k h hs i o hk hi
    by_cases e : i = k
    · subst e
      have h0 := h 0
      rw [Nat.add_zero, hi] at h0
      simp only [List.getElem?_cons_zero, Option.some.injEq] at h0
      subst h0
      exact hs.1
    · exact ih (k + 1) (fun j => by have := h (j + 1); rw [List.getElem?_cons_succ] at this; rw [this]; congr 1; omega) hs.2 i o (by omega) hi
theorem steps_all {P : Program} {ops : Array Oper} {Rl : World → World → Prop} {Ps : List (Value → World → Prop)} {J : Nat → World → Prop} {a : Act} (h : StepsFrom P ops Rl Ps J a 0 ops.toList) :
    ∀ i o, ops[i]? = some o → StepOk P ops Rl Ps J a i o := fun i o hi => steps_of ops.toList 0 (fun j => by simp) h i o (Nat.zero_le _) hi

def Stable (fb : List Nat) (p : Value → World → Prop) : Prop := ∀ v w w', Kept fb w w' → p v w → p v w'
def StabAll (fb : List Nat) : List (Value → World → Prop) → Prop
  | [] => True
  | p :: t => Stable fb p ∧ StabAll fb t
theorem stab_all {fb : List Nat} : ∀ {Ps : List (Value → World → Prop)}, StabAll fb Ps → ∀ p ∈ Ps, ∀ v w w', Kept fb w w' → p v w → p v w'
  | [], _, p, hp => by cases hp
  | q :: t, h, p, hp => by
    rcases List.mem_cons.1 hp with rfl | hp
    · exact h.1
    · exact stab_all h.2 p hp

def pVal (x : Value) : Value → World → Prop := fun v _ => v = x
def pStr (M : Nat) : Value → World → Prop := fun v _ => ∃ s : ByteArray, v = .string s ∧ s.size ≤ M
def pInt (n : Int) : Value → World → Prop := fun v _ => ∃ r : Int, v = .int .i64 r ∧ 0 ≤ r ∧ r < n
def pLits (fb : List Nat) (n M : Nat) : Value → World → Prop := fun v w => ∃ b, v = .slice (some ⟨b, 0, none⟩) n n ∧ b ∉ fb ∧ b < w.heap.size ∧ ∀ j, j < n → ∃ s : ByteArray, w.cell? ⟨b, j, none⟩ = some (.string s) ∧ s.size ≤ M
def pPtr (fb : List Nat) (M : Nat) : Value → World → Prop := fun v w => ∃ (b j : Nat) (s : ByteArray), v = .pointer (some ⟨b, j, none⟩) ∧ b ∉ fb ∧ b < w.heap.size ∧ w.cell? ⟨b, j, none⟩ = some (.string s) ∧ s.size ≤ M
theorem stVal {fb : List Nat} (x : Value) : Stable fb (pVal x) := fun _ _ _ _ h => h
theorem stStr {fb : List Nat} (M : Nat) : Stable fb (pStr M) := fun _ _ _ _ h => h
theorem stInt {fb : List Nat} (n : Int) : Stable fb (pInt n) := fun _ _ _ _ h => h
theorem stLits {fb : List Nat} (n M : Nat) : Stable fb (pLits fb n M) := fun v w w' hk ⟨b, h1, h2, h3, h4⟩ =>
  ⟨b, h1, h2, Nat.lt_of_lt_of_le h3 hk.size, fun j hj => by
    obtain ⟨s, h5, h6⟩ := h4 j hj
    exact ⟨s, (hk.cell (p := ⟨b, j, none⟩) h3 h2).trans h5, h6⟩⟩
theorem stPtr {fb : List Nat} (M : Nat) : Stable fb (pPtr fb M) := fun v w w' hk ⟨b, j, s, h1, h2, h3, h4, h5⟩ =>
  ⟨b, j, s, h1, h2, Nat.lt_of_lt_of_le h3 hk.size, (hk.cell (p := ⟨b, j, none⟩) h3 h2).trans h4, h5⟩
theorem pLits_new (L : List ByteArray) (M : Nat) (fb : List Nat) (w : World) (hM : ∀ s ∈ L, s.size ≤ M) (hr : ∀ b ∈ fb, b < w.heap.size) (n : Nat) (hn : L.length = n) :
    pLits fb n M (.slice (some ⟨w.heap.size, 0, none⟩) n n) (w.alloc (.cells (L.map Value.string).toArray 9)) := by
  refine ⟨w.heap.size, rfl, fun h => by have := hr _ h; omega, by simp, fun j hj => ⟨L[j]'(by omega), ?_, hM _ (List.getElem_mem _)⟩⟩
  rw [World.cell?_alloc_at _ _ _ _ rfl]
  simp [List.getElem?_eq_getElem (show j < L.length by omega)]
/-- The reader's state while a region runs. -/
def jRd (rb p0 : Nat) (w0 : World) (m : Nat) (w : World) : Prop := (∃ p, p ≤ p0 + m ∧ Rd w rb p) ∧ Kept [rb] w0 w
theorem jRd.same {rb p0 m : Nat} {w0 w : World} (h : jRd rb p0 w0 m w) : jRd rb p0 w0 (m + 1) w := by
  obtain ⟨⟨p, h1, h2⟩, h3⟩ := h
  exact ⟨⟨p, by omega, h2⟩, h3⟩
theorem jRd.alloc {rb p0 m : Nat} {w0 w : World} (h : jRd rb p0 w0 m w) (o : Obj) : jRd rb p0 w0 (m + 1) (w.alloc o) := by
  obtain ⟨⟨p, h1, h2⟩, h3⟩ := h
  have hb := (Below.refl w.heap.size w).alloc (Nat.le_refl _) o
  exact ⟨⟨p, by omega, h2.grow hb⟩, h3.trans (Kept.of_below hb)⟩
theorem jRd.lt {rb p0 m : Nat} {w0 w : World} (h : jRd rb p0 w0 m w) : rb < w.heap.size := by
  obtain ⟨⟨p, h1, h2⟩, h3⟩ := h
  exact h2.lt
theorem jRd.lts {rb p0 m : Nat} {w0 w : World} (h : jRd rb p0 w0 m w) : ∀ b ∈ [rb], b < w.heap.size := fun b hb => by
  have : b = rb := by simpa using hb
  subst this; exact h.lt
theorem jRd.start {rb p : Nat} {w : World} (h : Rd w rb p) : jRd rb p w 0 { w with drawn := w.drawn + 1 } :=
  ⟨⟨p, by omega, ⟨h.ex, h.hp⟩⟩, (Kept.refl [rb] w).drewN 1⟩
theorem At.mk {Ps : List (Value → World → Prop)} {i : Nat} {p : Value → World → Prop} {v : Value} {w : World} (h : Ps[i]? = some p) (hp : p v w) : At Ps i v w := by
  intro q hq
  rw [h] at hq
  cases hq
  exact hp

theorem jRd.top {rb p0 m B : Nat} {w00 w0 w : World} (h : jRd rb p0 w0 m w) (hb : Below B w00 w0) (hr : B ≤ rb) (hs : B ≤ w0.heap.size) : Below B w00 w := kept_below hb h.2 hr hs
/-- A reader and a row of texts of the call's own: as at first, or, behind all, with one of them turned. -/
def jOwn (rb p0 : Nat) (w0 : World) (B : Nat) (v : Value) (L : List ByteArray) (k N M : Nat) (m : Nat) (w : World) : Prop :=
  (∃ p, p ≤ p0 + m ∧ Rd w rb p) ∧ Below w0.heap.size w0 w ∧
    (w.ownsRow B 9 1 v L.length (L.map Value.string) ∨ m = N ∧ ∃ s : ByteArray, s.size ≤ M ∧ w.ownsRow B 9 1 v L.length ((L.set k s).map Value.string))
section
variable {rb p0 B k N M m : Nat} {w0 w w' : World} {v : Value} {L : List ByteArray}
theorem jOwn.row (h : jOwn rb p0 w0 B v L k N M m w) (hm : m < N) : w.ownsRow B 9 1 v L.length (L.map Value.string) := by
  rcases h.2.2 with h | ⟨h, _⟩
  · exact h
  · omega
theorem jOwn.same (h : jOwn rb p0 w0 B v L k N M m w) (hm : m < N) : jOwn rb p0 w0 B v L k N M (m + 1) w := by
  obtain ⟨p, h1, h2⟩ := h.1
  exact ⟨⟨p, by omega, h2⟩, h.2.1, .inl (h.row hm)⟩
theorem jOwn.alloc (h : jOwn rb p0 w0 B v L k N M m w) (hm : m < N) (o : Obj) : jOwn rb p0 w0 B v L k N M (m + 1) (w.alloc o) := by
  obtain ⟨p, h1, h2⟩ := h.1
  have hb := (Below.refl w.heap.size w).alloc (Nat.le_refl _) o
  exact ⟨⟨p, by omega, h2.grow hb⟩, h.2.1.alloc h.2.1.size o, .inl ((h.row hm).alloc o)⟩
theorem Rd.kept {rb p : Nat} {fp : List Nat} {w w' : World} (h : Rd w rb p) (hk : Kept fp w w') (hf : ∀ b ∈ fp, rb < b) : Rd w' rb p := by
  have hlt := h.lt
  obtain ⟨⟨a, l, cap, fq, h1, h2, h3, h4⟩, h5⟩ := h
  refine ⟨⟨a, l, cap, fq, (hk.block rb hlt (fun hx => by have := hf rb hx; omega)).trans h1, (sSlice sByte).kept h2 (fun b hb hx => by have := hf b hx; have := h3 b hb; omega) hk, h3, h4⟩, h5⟩
theorem jOwn.store {g cap n : Nat} {s : ByteArray} (h : jOwn rb p0 w0 B (.slice (some ⟨g, 0, none⟩) n cap) L k N M m w) (hm : m < N) (hN : m + 1 = N) (hs : s.size ≤ M) (hrb : rb < B) (hg : B ≤ g) (hw0 : w0.heap.size ≤ B) :
    jOwn rb p0 w0 B (.slice (some ⟨g, 0, none⟩) n cap) L k N M (m + 1) (w.setCell ⟨g, k, none⟩ (.string s)) := by
  obtain ⟨p, h1, h2⟩ := h.1
  have hrow := h.row hm
  have hn : L.length = n := by
    rcases hrow.2 with ⟨h', _⟩ | ⟨g', cap', cur, h', _⟩
    · cases h'
    · simp only [Value.slice.injEq] at h'; exact h'.2.1.symm
  subst hn
  have hk : Kept [g] w (w.setCell ⟨g, k, none⟩ (.string s)) := (Kept.refl _ _).setCell (by simp) _
  refine ⟨⟨p, by omega, h2.kept hk (fun b hb => by have e : b = g := (by simpa using hb); omega)⟩, h.2.1.trans (hk.below (fun b hb => by have e : b = g := (by simpa using hb); omega) h.2.1.size), .inr ⟨hN, s, hs, ?_⟩⟩
  have := (hrow.stored k (.string s)).1
  rw [List.map_set]
  exact this
end
end Go.Proofs.Ytiaiggjfepoahaa

/- Rows of bytes of the call's own. -/
namespace Go.Proofs.Ytiaiggjfepoahaa
open Go.RowKit
def Bytes (base : Nat) (v : Value) (s : ByteArray) (w : World) : Prop := w.ownsRow base 5 1 v s.size (Lib.strCells s)
theorem Bytes.none (base : Nat) (w : World) : Bytes base (.slice Option.none 0 0) ⟨#[]⟩ w := World.ownsRow_nil _ _ _ _
end Go.Proofs.Ytiaiggjfepoahaa

/- The drawing of a line. -/
namespace Go.Proofs.Ytiaiggjfepoahaa
open Go.RowKit

/-- A text of at most M bytes is drawn, by at most n picks. -/
def Drawn (rb p n M : Nat) (w : World) (e : Ending) (w' : World) : Prop := ∃ (s : ByteArray) (q : Nat), e = .returned (.string s) ∧ s.size ≤ M ∧ q ≤ p + n ∧ Rd w' rb q ∧ Kept [rb] w w'
def line_lits : List ByteArray := [⟨#[10]⟩, ⟨#[127]⟩, ⟨#[64]⟩, ⟨#[34, 115]⟩, ⟨#[97, 98, 99, 100, 101, 102, 103, 104, 105, 106, 107, 108, 109]⟩, ⟨#[92]⟩]
theorem line_lits_size : ∀ s ∈ line_lits, s.size ≤ 13 := by decide

set_option maxHeartbeats 8000000 in
theorem l20Line (rb p : Nat) (n : Int) (w : World) (H : Rd w rb p) (hp : p ≤ 100000) (hn : n ≤ 100) (hn0 : 0 ≤ n) :
    Calls Try.prog 51 #[.pointer (some ⟨rb, 0, none⟩), .int .i64 n] w (Drawn rb p 110 1000 w) := by
  go_enter Try.func51, Try.ntmps51
  go_wp2_with (go_at_call 17; refine (pick rb p _ _ H (by omega) (by omega) (by omega)).mono ?_; rintro e w2 ⟨r, rfl, h0, h1, hR2, hK⟩)
  go_loopw [5, 6] (fun o i wr => ∃ (k q : Nat) (out : ByteArray), k ≤ 6 ∧ q + 14 * k ≤ p + 100 ∧ out.size + 20 * k ≤ 500 ∧ o = .string out ∧ i = .int .i64 k ∧ Rd wr rb q ∧ Kept [rb] w wr) (fun _ i _ => (intOf i).toNat)
  case atStart => exact ⟨r.toNat, p + 1, _, by omega, by omega, by show 0 + _ ≤ _; omega, rfl, by go_num, hR2, hK⟩
  case round =>
    obtain ⟨k, q, out, hk, hq, ho, rfl, rfl, hR, hB⟩ := hrel
    clear hR2 hK
    by_cases hlt : 0 < k
    · go_wp2
      refine wp_region_types (P := Try.prog) (by kernel_rfl) (by kernel_rfl) (Kept [rb]) [pVal (.string out), pLits [rb] 20 6, pVal (.pointer (some ⟨rb, 0, none⟩)), pInt 20, pPtr [rb] 6, pStr 6, pStr (out.size + 6), pLits [rb] 2 1, pVal (.pointer (some ⟨rb, 0, none⟩)), pInt 2, pPtr [rb] 1, pStr 1, pStr ((out.size + 6) + 1), pStr ((out.size + 6) + 1)] (stab_all ⟨stVal _, stLits _ _, stVal _, stInt _, stPtr _, stStr _, stStr _, stLits _ _, stVal _, stInt _, stPtr _, stStr _, stStr _, stStr _, trivial⟩) (jRd rb q wr) ?start (steps_all ⟨?s0, ?s1, ?s2, ?s3, ?s4, ?s5, ?s6, ?s7, ?s8, ?s9, ?s10, ?s11, ?s12, ?s13, trivial⟩) ?done
      case start => exact jRd.start hR
      case s0 =>
        intro xs w' m hl hm hJ hlast hf ho K hK
        replace hm : m < 14 := hm
        obtain ⟨x0, x1, x2, x3, x4, x5, x6, x7, x8, x9, x10, x11, x12, x13, rfl⟩ := len14 hl
        obtain rfl : x13 = .string out := by have := ho 13 _ rfl (.inr ⟨⟨0, .phase⟩, by simp, rfl, rfl⟩); simpa [origs] using this
        clear hlast
        clear hf ho
        simp only [fill, Act.put, List.map_cons, List.map_nil, List.setIfInBounds_toArray, List.set_cons_succ, List.set_cons_zero] at hK ⊢
        go_wp2
        exact hK _ _ (At.mk rfl rfl) (Kept.refl _ _) hJ.same
      case s1 =>
        intro xs w' m hl hm hJ hlast hf ho K hK
        replace hm : m < 14 := hm
        obtain ⟨x0, x1, x2, x3, x4, x5, x6, x7, x8, x9, x10, x11, x12, x13, rfl⟩ := len14 hl
        clear hlast
        clear hf ho
        simp only [fill, Act.put, List.map_cons, List.map_nil, List.setIfInBounds_toArray, List.set_cons_succ, List.set_cons_zero] at hK ⊢
        go_wp2
        exact hK _ _ (At.mk rfl (pLits_new [⟨#[97]⟩, ⟨#[98]⟩, ⟨#[102, 40]⟩, ⟨#[120]⟩, ⟨#[41]⟩, ⟨#[32]⟩, ⟨#[44]⟩, ⟨#[43]⟩, ⟨#[49]⟩, ⟨#[49, 50]⟩, ⟨#[34, 115, 34]⟩, ⟨#[103, 40, 49, 44, 50, 41]⟩, ⟨#[102, 40, 97, 41]⟩, ⟨#[40]⟩, ⟨#[65, 66]⟩, ⟨#[32, 45, 32]⟩, ⟨#[61, 61]⟩, ⟨#[104, 40, 98, 32, 99, 41]⟩, ⟨#[101, 40, 41]⟩, ⟨#[38, 38]⟩] 6 [rb] w' (by decide) hJ.lts 20 rfl)) (Kept.of_below ((Below.refl _ _).alloc (Nat.le_refl _) _)) (hJ.alloc _)
      case s2 =>
        intro xs w' m hl hm hJ hlast hf ho K hK
        replace hm : m < 14 := hm
        obtain ⟨x0, x1, x2, x3, x4, x5, x6, x7, x8, x9, x10, x11, x12, x13, rfl⟩ := len14 hl
        clear hlast
        clear hf ho
        simp only [fill, Act.put, List.map_cons, List.map_nil, List.setIfInBounds_toArray, List.set_cons_succ, List.set_cons_zero] at hK ⊢
        go_wp2
        exact hK _ _ (At.mk rfl rfl) (Kept.refl _ _) hJ.same
      case s3 =>
        intro xs w' m hl hm hJ hlast hf ho K hK
        replace hm : m < 14 := hm
        obtain ⟨x0, x1, x2, x3, x4, x5, x6, x7, x8, x9, x10, x11, x12, x13, rfl⟩ := len14 hl
        have f2 : pVal (.pointer (some ⟨rb, 0, none⟩)) x2 w' := hf ⟨2, .data⟩ (by simp) rfl _ rfl _ rfl
        clear hlast
        clear hf ho
        obtain rfl := f2
        obtain ⟨⟨p1, hp1, hR1⟩, hK1⟩ := hJ
        simp only [fill, Act.put, List.map_cons, List.map_nil, List.setIfInBounds_toArray, List.set_cons_succ, List.set_cons_zero] at hK ⊢
        go_wp2_with (go_at_call 17; refine (pick rb p1 _ _ hR1 (by omega) (by omega) (by omega)).mono ?_; rintro e w2 ⟨rr, rfl, hr0, hr1, hRq, hkq⟩)
        exact hK _ _ (At.mk rfl ⟨rr, rfl, hr0, by omega⟩) hkq ⟨⟨p1 + 1, by omega, hRq⟩, hK1.trans hkq⟩
      case s4 =>
        intro xs w' m hl hm hJ hlast hf ho K hK
        replace hm : m < 14 := hm
        obtain ⟨x0, x1, x2, x3, x4, x5, x6, x7, x8, x9, x10, x11, x12, x13, rfl⟩ := len14 hl
        have f1 : pLits [rb] 20 6 x1 w' := hf ⟨1, .data⟩ (by simp) rfl _ rfl _ rfl
        have f3 : pInt 20 x3 w' := hf ⟨3, .data⟩ (by simp) rfl _ rfl _ rfl
        clear hlast
        clear hf ho
        obtain ⟨ba, rfl, hnea, hba, hca⟩ := f1
        obtain ⟨ri, rfl, hii, hji⟩ := f3
        obtain ⟨s, hc1, hs1⟩ := hca ri.toNat (by omega)
        simp only [fill, Act.put, List.map_cons, List.map_nil, List.setIfInBounds_toArray, List.set_cons_succ, List.set_cons_zero] at hK ⊢
        go_wp2
        exact hK _ _ (At.mk rfl ⟨ba, _, s, rfl, hnea, hba, hc1, hs1⟩) (Kept.refl _ _) hJ.same
      case s5 =>
        intro xs w' m hl hm hJ hlast hf ho K hK
        replace hm : m < 14 := hm
        obtain ⟨x0, x1, x2, x3, x4, x5, x6, x7, x8, x9, x10, x11, x12, x13, rfl⟩ := len14 hl
        have f4 : pPtr [rb] 6 x4 w' := hf ⟨4, .data⟩ (by simp) rfl _ rfl _ rfl
        clear hlast
        clear hf ho
        obtain ⟨ba, ja, sa, rfl, hnea, hba, hca, hsa⟩ := f4
        simp only [fill, Act.put, List.map_cons, List.map_nil, List.setIfInBounds_toArray, List.set_cons_succ, List.set_cons_zero] at hK ⊢
        go_wp2
        exact hK _ _ (At.mk rfl ⟨_, rfl, hsa⟩) (Kept.refl _ _) hJ.same
      case s6 =>
        intro xs w' m hl hm hJ hlast hf ho K hK
        replace hm : m < 14 := hm
        obtain ⟨x0, x1, x2, x3, x4, x5, x6, x7, x8, x9, x10, x11, x12, x13, rfl⟩ := len14 hl
        have f0 : pVal (.string out) x0 w' := hf ⟨0, .data⟩ (by simp) rfl _ rfl _ rfl
        have f5 : pStr 6 x5 w' := hf ⟨5, .data⟩ (by simp) rfl _ rfl _ rfl
        clear hlast
        clear hf ho
        obtain rfl := f0
        obtain ⟨sb, rfl, hsb⟩ := f5
        have hadd := fun W => run_string_add_sum (P := Try.prog) W out sb (by omega)
        simp only [fill, Act.put, List.map_cons, List.map_nil, List.setIfInBounds_toArray, List.set_cons_succ, List.set_cons_zero] at hK ⊢
        go_wp2
        exact hK _ _ (At.mk rfl ⟨_, rfl, by rw [ByteArray.size_append]; omega⟩) (Kept.refl _ _) hJ.same
      case s7 =>
        intro xs w' m hl hm hJ hlast hf ho K hK
        replace hm : m < 14 := hm
        obtain ⟨x0, x1, x2, x3, x4, x5, x6, x7, x8, x9, x10, x11, x12, x13, rfl⟩ := len14 hl
        clear hlast
        clear hf ho
        simp only [fill, Act.put, List.map_cons, List.map_nil, List.setIfInBounds_toArray, List.set_cons_succ, List.set_cons_zero] at hK ⊢
        go_wp2
        exact hK _ _ (At.mk rfl (pLits_new [⟨#[]⟩, ⟨#[32]⟩] 1 [rb] w' (by decide) hJ.lts 2 rfl)) (Kept.of_below ((Below.refl _ _).alloc (Nat.le_refl _) _)) (hJ.alloc _)
      case s8 =>
        intro xs w' m hl hm hJ hlast hf ho K hK
        replace hm : m < 14 := hm
        obtain ⟨x0, x1, x2, x3, x4, x5, x6, x7, x8, x9, x10, x11, x12, x13, rfl⟩ := len14 hl
        clear hlast
        clear hf ho
        simp only [fill, Act.put, List.map_cons, List.map_nil, List.setIfInBounds_toArray, List.set_cons_succ, List.set_cons_zero] at hK ⊢
        go_wp2
        exact hK _ _ (At.mk rfl rfl) (Kept.refl _ _) hJ.same
      case s9 =>
        intro xs w' m hl hm hJ hlast hf ho K hK
        replace hm : m < 14 := hm
        obtain ⟨x0, x1, x2, x3, x4, x5, x6, x7, x8, x9, x10, x11, x12, x13, rfl⟩ := len14 hl
        have f8 : pVal (.pointer (some ⟨rb, 0, none⟩)) x8 w' := hf ⟨8, .data⟩ (by simp) rfl _ rfl _ rfl
        clear hlast
        clear hf ho
        obtain rfl := f8
        obtain ⟨⟨p1, hp1, hR1⟩, hK1⟩ := hJ
        simp only [fill, Act.put, List.map_cons, List.map_nil, List.setIfInBounds_toArray, List.set_cons_succ, List.set_cons_zero] at hK ⊢
        go_wp2_with (go_at_call 17; refine (pick rb p1 _ _ hR1 (by omega) (by omega) (by omega)).mono ?_; rintro e w2 ⟨rr, rfl, hr0, hr1, hRq, hkq⟩)
        exact hK _ _ (At.mk rfl ⟨rr, rfl, hr0, by omega⟩) hkq ⟨⟨p1 + 1, by omega, hRq⟩, hK1.trans hkq⟩
      case s10 =>
        intro xs w' m hl hm hJ hlast hf ho K hK
        replace hm : m < 14 := hm
        obtain ⟨x0, x1, x2, x3, x4, x5, x6, x7, x8, x9, x10, x11, x12, x13, rfl⟩ := len14 hl
        have f7 : pLits [rb] 2 1 x7 w' := hf ⟨7, .data⟩ (by simp) rfl _ rfl _ rfl
        have f9 : pInt 2 x9 w' := hf ⟨9, .data⟩ (by simp) rfl _ rfl _ rfl
        clear hlast
        clear hf ho
        obtain ⟨ba, rfl, hnea, hba, hca⟩ := f7
        obtain ⟨ri, rfl, hii, hji⟩ := f9
        obtain ⟨s, hc1, hs1⟩ := hca ri.toNat (by omega)
        simp only [fill, Act.put, List.map_cons, List.map_nil, List.setIfInBounds_toArray, List.set_cons_succ, List.set_cons_zero] at hK ⊢
        go_wp2
        exact hK _ _ (At.mk rfl ⟨ba, _, s, rfl, hnea, hba, hc1, hs1⟩) (Kept.refl _ _) hJ.same
      case s11 =>
        intro xs w' m hl hm hJ hlast hf ho K hK
        replace hm : m < 14 := hm
        obtain ⟨x0, x1, x2, x3, x4, x5, x6, x7, x8, x9, x10, x11, x12, x13, rfl⟩ := len14 hl
        have f10 : pPtr [rb] 1 x10 w' := hf ⟨10, .data⟩ (by simp) rfl _ rfl _ rfl
        clear hlast
        clear hf ho
        obtain ⟨ba, ja, sa, rfl, hnea, hba, hca, hsa⟩ := f10
        simp only [fill, Act.put, List.map_cons, List.map_nil, List.setIfInBounds_toArray, List.set_cons_succ, List.set_cons_zero] at hK ⊢
        go_wp2
        exact hK _ _ (At.mk rfl ⟨_, rfl, hsa⟩) (Kept.refl _ _) hJ.same
      case s12 =>
        intro xs w' m hl hm hJ hlast hf ho K hK
        replace hm : m < 14 := hm
        obtain ⟨x0, x1, x2, x3, x4, x5, x6, x7, x8, x9, x10, x11, x12, x13, rfl⟩ := len14 hl
        have f6 : pStr (out.size + 6) x6 w' := hf ⟨6, .data⟩ (by simp) rfl _ rfl _ rfl
        have f11 : pStr 1 x11 w' := hf ⟨11, .data⟩ (by simp) rfl _ rfl _ rfl
        clear hlast
        clear hf ho
        obtain ⟨sa, rfl, hsa⟩ := f6
        obtain ⟨sb, rfl, hsb⟩ := f11
        have hadd := fun W => run_string_add_sum (P := Try.prog) W sa sb (by omega)
        simp only [fill, Act.put, List.map_cons, List.map_nil, List.setIfInBounds_toArray, List.set_cons_succ, List.set_cons_zero] at hK ⊢
        go_wp2
        exact hK _ _ (At.mk rfl ⟨_, rfl, by rw [ByteArray.size_append]; omega⟩) (Kept.refl _ _) hJ.same
      case s13 =>
        intro xs w' m hl hm hJ hlast hf ho K hK
        replace hm : m < 14 := hm
        obtain ⟨x0, x1, x2, x3, x4, x5, x6, x7, x8, x9, x10, x11, x12, x13, rfl⟩ := len14 hl
        have f12 : pStr ((out.size + 6) + 1) x12 w' := hf ⟨12, .data⟩ (by simp) rfl _ rfl _ rfl
        clear hlast
        clear hf ho
        obtain ⟨sa, rfl, hsa⟩ := f12
        simp only [fill, Act.put, List.map_cons, List.map_nil, List.setIfInBounds_toArray, List.set_cons_succ, List.set_cons_zero] at hK ⊢
        go_wp2
        exact hK _ _ (At.mk rfl ⟨_, rfl, hsa⟩) (Kept.refl _ _) hJ.same
      case done =>
        intro xs w' hl hf hJ
        obtain ⟨x0, x1, x2, x3, x4, x5, x6, x7, x8, x9, x10, x11, x12, x13, rfl⟩ := len14 hl
        have f13 : pStr ((out.size + 6) + 1) x13 w' := hf 13 _ rfl _ rfl
        obtain ⟨sz, rfl, hsz⟩ := f13
        clear hf
        obtain ⟨⟨p1, hp1, hR1⟩, hK1⟩ := hJ
        replace hp1 : p1 ≤ q + 14 := hp1
        simp only [fill, Act.put, List.map_cons, List.map_nil, List.setIfInBounds_toArray, List.set_cons_succ, List.set_cons_zero]
        go_wp2
        go_roundw
        case rel => exact ⟨k - 1, p1, sz, by omega, by omega, by omega, rfl, by go_num, hR1, hB.trans hK1⟩
        case measure => simp [intOf]; omega
    · go_wp2_with fail
      refine (odd rb q _ _ hR (by omega) (by omega) (by omega)).mono ?_
      rintro e w3 ⟨b, q2, rfl, hq1, hq2, hR3, hK3⟩
      cases b
      · go_wp2
        go_ret
        exact ⟨out, q2, rfl, by omega, by omega, hR3, hB.trans hK3⟩
      · go_wp2_with (go_at_call 17; refine (pick rb q2 _ _ (hR3.grow ((Below.refl _ _).alloc (Nat.le_refl _) _)) (by omega) (by omega) (by omega)).mono ?_; rintro e w4 ⟨r2, rfl, h20, h21, hR4, hK4⟩; obtain ⟨s, hs, hc⟩ := lit_pick line_lits 13 line_lits_size h20 (by show r2 < 6; omega) hR3.lt hK4; have hadd := fun W => run_string_add_sum (P := Try.prog) W out s (by omega))
        go_ret
        exact ⟨out ++ s, q2 + 1, rfl, by rw [ByteArray.size_append]; omega, by omega, hR4, (hB.trans hK3).trans ((Kept.of_below ((Below.refl _ _).alloc (Nat.le_refl _) _)).trans hK4)⟩

end Go.Proofs.Ytiaiggjfepoahaa

/- The drawing of tokens. -/
namespace Go.Proofs.Ytiaiggjfepoahaa
open Go.RowKit

/-- A drawn token: small. -/
def okTok (t : Tok) : Prop := t.text.size ≤ 1000 ∧ 0 ≤ t.kind ∧ t.kind ≤ 4 ∧ t.hidden.length ≤ 3
def elemTok (t : Tok) : Elem Tok := ⟨freshCells t, t, []⟩
theorem toks_rowE {base : Nat} {v : Value} {l : List Tok} {w : World} {B : Nat} (h : TokRow base v l w) (hf : Fresh B l) (hB : B ≤ 1000) :
    RowE sTok base 36 v (l.map elemTok) w ∧ ∀ x ∈ l.map elemTok, okTok x.d := by
  have hL : (l.map elemTok).flatMap (·.cells) = l.flatMap freshCells := by rw [List.flatMap_map]; rfl
  have hx : ∀ x ∈ l.map elemTok, ∃ t ∈ l, x = elemTok t := fun x hx => by
    obtain ⟨t, ht, rfl⟩ := List.mem_map.1 hx
    exact ⟨t, ht, rfl⟩
  refine ⟨⟨by rw [hL, List.length_map]; exact h, fun x hm => ?_, fun x hm => ?_, fun x hm b hb => ?_, fun x hm b hb => ?_⟩, fun x hm => ?_⟩ <;> obtain ⟨t, ht, rfl⟩ := hx x hm
  · rfl
  · obtain ⟨a1, a2, a3, a4⟩ := hf t ht
    have b1 : okInt t.kind := ⟨by omega, by omega⟩
    have b2 : okStr t.text := by unfold okStr maxLen; omega
    have b3 : (sSlice sStr).R w [.slice none 0 0] t.hidden [] := by rw [a2]; exact slice_empty sStr w none 0 (by simp)
    exact ⟨_, rfl, b1, b2, b3⟩
  · simp [elemTok] at hb
  · simp [elemTok] at hb
  · obtain ⟨a1, a2, a3, a4⟩ := hf t ht
    exact ⟨Nat.le_trans a1 hB, by show 0 ≤ t.kind; omega, a4, by show t.hidden.length ≤ 3; rw [a2]; simp⟩

/-- The lists of names out of which a token's hidden ones are drawn. -/
abbrev hidW (w : World) : World :=
  (((((w.alloc (.cells #[.string ⟨#[97]⟩] 9)).alloc (.cells #[.string ⟨#[97]⟩, .string ⟨#[98]⟩] 9)).alloc (.cells #[.string ⟨#[102]⟩] 9)).alloc (.cells #[.string ⟨#[97]⟩, .string ⟨#[102]⟩, .string ⟨#[103]⟩] 9)).alloc
    (.cells #[.slice (some ⟨w.heap.size, 0, none⟩) 1 1, .slice (some ⟨w.heap.size + 1, 0, none⟩) 2 2, .slice (some ⟨w.heap.size + 1 + 1, 0, none⟩) 1 1, .slice (some ⟨w.heap.size + 1 + 1 + 1, 0, none⟩) 3 3] 34))
def hidL (n : Nat) : List Obj := [.cells #[.string ⟨#[97]⟩] 9, .cells #[.string ⟨#[97]⟩, .string ⟨#[98]⟩] 9, .cells #[.string ⟨#[102]⟩] 9, .cells #[.string ⟨#[97]⟩, .string ⟨#[102]⟩, .string ⟨#[103]⟩] 9,
  .cells #[.slice (some ⟨n, 0, none⟩) 1 1, .slice (some ⟨n + 1, 0, none⟩) 2 2, .slice (some ⟨n + 1 + 1, 0, none⟩) 1 1, .slice (some ⟨n + 1 + 1 + 1, 0, none⟩) 3 3] 34]
theorem hidW_eq (w : World) : hidW w = allocs w (hidL w.heap.size) := rfl
theorem hidW_below (w : World) : Below w.heap.size w (hidW w) := by rw [hidW_eq]; exact allocs_below _ _ (Below.refl _ _) (Nat.le_refl _)
theorem hidW_blk (w : World) (j : Nat) (hj : j < 5) : (hidW w).heap[w.heap.size + j]? = some ((hidL w.heap.size)[j]'hj) := by rw [hidW_eq]; exact allocs_blk w (hidL w.heap.size) j hj
theorem hidW_size (w : World) : (hidW w).heap.size = w.heap.size + 5 := by rw [hidW_eq, allocs_size]; rfl
/-- A literal row of texts. -/
theorem lit_strs {w : World} {b : Nat} {l : List ByteArray} {t : TypeId} {fr : Nat × Nat} (h : w.heap[b]? = some (.cells (l.map Value.string).toArray t fr)) (hs : ∀ s ∈ l, s.size ≤ 1000) (h0 : 0 < l.length) (hl : l.length ≤ 1000) (n : Nat) (hn : l.length = n) :
    (sSlice sStr).R w [.slice (some ⟨b, 0, none⟩) n n] l [b] := by
  subst hn
  refine ⟨_, _, rfl, Nat.le_refl _, by unfold maxLen; omega, .inr ⟨h0, b, 0, fun _ => [], rfl, by simp, (Array.getElem?_eq_some_iff.1 h).1, fun i hi => ⟨[.string l[i]], ⟨rfl, fun j hj => ?_⟩, rfl, ?_, rfl⟩⟩⟩
  · have hj0 : j = 0 := by simp [sStr, sFlat] at hj; omega
    subst hj0
    have := cell_of_row w b i _ _ _ h
    simp only [sStr, sFlat, Nat.mul_one, Nat.zero_add, Nat.add_zero] at *
    rw [this]; simp [List.getElem?_eq_getElem hi]
  · have := hs _ (List.getElem_mem hi)
    unfold okStr maxLen; omega
theorem hid_lits {w w3 : World} {rb : Nat} {r : Int} (hr : rb < w.heap.size) (hK : Kept [rb] (hidW w) w3) (h0 : 0 ≤ r) (h1 : r < 4) :
    ∃ b n l, w3.cell? ⟨w.heap.size + 1 + 1 + 1 + 1, r.toNat, none⟩ = some (.slice (some ⟨b, 0, none⟩) n n) ∧ (sSlice sStr).R w3 [.slice (some ⟨b, 0, none⟩) n n] l [b] ∧ l.length ≤ 3 ∧ w.heap.size ≤ b ∧ ∃ cur fr, w3.heap[b]? = some (.cells cur 9 fr) := by
  have gs := hidW_size w
  have g0 := hidW_blk w 0 (by omega)
  have g1 := hidW_blk w 1 (by omega)
  have g2 := hidW_blk w 2 (by omega)
  have g3 := hidW_blk w 3 (by omega)
  have g4 := hidW_blk w 4 (by omega)
  have k0 := (hK.block _ (by omega) (by simp; omega)).trans g0
  have k1 := (hK.block _ (by omega) (by simp; omega)).trans g1
  have k2 := (hK.block _ (by omega) (by simp; omega)).trans g2
  have k3 := (hK.block _ (by omega) (by simp; omega)).trans g3
  have k4 := (hK.block _ (by omega) (by simp; omega)).trans g4
  have hc := fun j => cell_of_row w3 (w.heap.size + 1 + 1 + 1 + 1) j _ _ _ k4
  have hr4 : r = 0 ∨ r = 1 ∨ r = 2 ∨ r = 3 := by omega
  rcases hr4 with rfl | rfl | rfl | rfl
  · exact ⟨_, 1, [⟨#[97]⟩], hc 0, lit_strs (l := [⟨#[97]⟩]) k0 (by decide) (by decide) (by decide) 1 rfl, by decide, by omega, _, _, k0⟩
  · exact ⟨_, 2, [⟨#[97]⟩, ⟨#[98]⟩], hc 1, lit_strs (l := [⟨#[97]⟩, ⟨#[98]⟩]) k1 (by decide) (by decide) (by decide) 2 rfl, by decide, by omega, _, _, k1⟩
  · exact ⟨_, 1, [⟨#[102]⟩], hc 2, lit_strs (l := [⟨#[102]⟩]) k2 (by decide) (by decide) (by decide) 1 rfl, by decide, by omega, _, _, k2⟩
  · exact ⟨_, 3, [⟨#[97]⟩, ⟨#[102]⟩, ⟨#[103]⟩], hc 3, lit_strs (l := [⟨#[97]⟩, ⟨#[102]⟩, ⟨#[103]⟩]) k3 (by decide) (by decide) (by decide) 3 rfl, by decide, by omega, _, _, k3⟩

def tokE (k : Int) (s : ByteArray) (ao : Option Addr) (m : Nat) (l : List ByteArray) (fp : List Nat) : Elem Tok := ⟨[.int .i64 k, .string s, .bool false, .slice ao m m], ⟨k, s, false, l⟩, fp⟩
/-- The tokens that are not valid, out of which one is drawn. -/
def badE (n : Nat) : List (Elem Tok) := [tokE 0 ⟨#[]⟩ none 0 [] [], tokE 1 ⟨#[49, 97]⟩ none 0 [] [], tokE 1 ⟨#[97, 32, 98]⟩ none 0 [] [], tokE 2 ⟨#[97]⟩ none 0 [] [], tokE 4 ⟨#[64]⟩ none 0 [] [], tokE 3 ⟨#[34, 97]⟩ none 0 [] [],
  tokE 1 ⟨#[97]⟩ (some ⟨n, 0, none⟩) 2 [⟨#[98]⟩, ⟨#[97]⟩] [n], tokE 1 ⟨#[97]⟩ (some ⟨n + 1, 0, none⟩) 1 [⟨#[49]⟩] [n + 1]]
def badL (n : Nat) : List Obj := [.cells #[.string ⟨#[98]⟩, .string ⟨#[97]⟩] 9, .cells #[.string ⟨#[49]⟩] 9, .cells ((badE n).flatMap (·.cells)).toArray 36]
abbrev badW (w : World) : World :=
  ((w.alloc (.cells #[.string ⟨#[98]⟩, .string ⟨#[97]⟩] 9)).alloc (.cells #[.string ⟨#[49]⟩] 9)).alloc
    (.cells #[.int .i64 0, .string ⟨#[]⟩, .bool false, .slice none 0 0, .int .i64 1, .string ⟨#[49, 97]⟩, .bool false, .slice none 0 0, .int .i64 1, .string ⟨#[97, 32, 98]⟩, .bool false, .slice none 0 0, .int .i64 2, .string ⟨#[97]⟩, .bool false, .slice none 0 0,
      .int .i64 4, .string ⟨#[64]⟩, .bool false, .slice none 0 0, .int .i64 3, .string ⟨#[34, 97]⟩, .bool false, .slice none 0 0, .int .i64 1, .string ⟨#[97]⟩, .bool false, .slice (some ⟨w.heap.size, 0, none⟩) 2 2, .int .i64 1, .string ⟨#[97]⟩, .bool false, .slice (some ⟨w.heap.size + 1, 0, none⟩) 1 1] 36)
theorem badW_eq (w : World) : badW w = allocs w (badL w.heap.size) := rfl
theorem badW_below (w : World) : Below w.heap.size w (badW w) := by rw [badW_eq]; exact allocs_below _ _ (Below.refl _ _) (Nat.le_refl _)
theorem badW_blk (w : World) (j : Nat) (hj : j < 3) : (badW w).heap[w.heap.size + j]? = some ((badL w.heap.size)[j]'hj) := by rw [badW_eq]; exact allocs_blk w (badL w.heap.size) j hj
theorem badW_size (w : World) : (badW w).heap.size = w.heap.size + 3 := by rw [badW_eq, allocs_size]; rfl
theorem badE_len (n : Nat) : ∀ x ∈ badE n, x.cells.length = 4 := by
  intro x hx
  simp only [badE, List.mem_cons, List.not_mem_nil, or_false] at hx
  rcases hx with rfl | rfl | rfl | rfl | rfl | rfl | rfl | rfl <;> rfl
theorem badE_form (n : Nat) : ∀ x ∈ badE n, okTok x.d ∧ ∃ k s ao m l fp, x = tokE k s ao m l fp ∧ (fp = [] ∧ l = [] ∧ ao = none ∧ m = 0 ∨ fp = [n] ∧ l = [⟨#[98]⟩, ⟨#[97]⟩] ∧ ao = some ⟨n, 0, none⟩ ∧ m = 2 ∨ fp = [n + 1] ∧ l = [⟨#[49]⟩] ∧ ao = some ⟨n + 1, 0, none⟩ ∧ m = 1) := by
  intro x hx
  simp only [badE, List.mem_cons, List.not_mem_nil, or_false] at hx
  have ok : ∀ (k : Int) (s : ByteArray) (l : List ByteArray), s.size ≤ 1000 → 0 ≤ k → k ≤ 4 → l.length ≤ 3 → okTok ⟨k, s, false, l⟩ := fun k s l a b c d => ⟨a, b, c, d⟩
  rcases hx with rfl | rfl | rfl | rfl | rfl | rfl | rfl | rfl
  · exact ⟨ok _ _ _ (by decide) (by decide) (by decide) (by decide), _, _, _, _, _, _, rfl, .inl ⟨rfl, rfl, rfl, rfl⟩⟩
  · exact ⟨ok _ _ _ (by decide) (by decide) (by decide) (by decide), _, _, _, _, _, _, rfl, .inl ⟨rfl, rfl, rfl, rfl⟩⟩
  · exact ⟨ok _ _ _ (by decide) (by decide) (by decide) (by decide), _, _, _, _, _, _, rfl, .inl ⟨rfl, rfl, rfl, rfl⟩⟩
  · exact ⟨ok _ _ _ (by decide) (by decide) (by decide) (by decide), _, _, _, _, _, _, rfl, .inl ⟨rfl, rfl, rfl, rfl⟩⟩
  · exact ⟨ok _ _ _ (by decide) (by decide) (by decide) (by decide), _, _, _, _, _, _, rfl, .inl ⟨rfl, rfl, rfl, rfl⟩⟩
  · exact ⟨ok _ _ _ (by decide) (by decide) (by decide) (by decide), _, _, _, _, _, _, rfl, .inl ⟨rfl, rfl, rfl, rfl⟩⟩
  · exact ⟨ok _ _ _ (by decide) (by decide) (by decide) (by decide), _, _, _, _, _, _, rfl, .inr (.inl ⟨rfl, rfl, rfl, rfl⟩)⟩
  · exact ⟨ok _ _ _ (by decide) (by decide) (by decide) (by decide), _, _, _, _, _, _, rfl, .inr (.inr ⟨rfl, rfl, rfl, rfl⟩)⟩
/-- One of them, picked. -/
def PickedTok (B g : Nat) (i : Nat) (w : World) : Prop :=
  ∃ (k : Int) (s : ByteArray) (ao : Option Addr) (m : Nat) (l : List ByteArray) (fp : List Nat),
    w.cell? ⟨g, i * 4, none⟩ = some (.int .i64 k) ∧ w.cell? ⟨g, i * 4 + 1, none⟩ = some (.string s) ∧ w.cell? ⟨g, i * 4 + 2, none⟩ = some (.bool false) ∧ w.cell? ⟨g, i * 4 + 3, none⟩ = some (.slice ao m m) ∧
    sTok.R w [.int .i64 k, .string s, .bool false, .slice ao m m] ⟨k, s, false, l⟩ fp ∧ okTok ⟨k, s, false, l⟩ ∧ (∀ b ∈ fp, B ≤ b) ∧ (∀ b ∈ fp, ∃ cur t fr, w.heap[b]? = some (.cells cur t fr) ∧ t ≠ 36)
theorem bad_pick {w w4 : World} {rb : Nat} {r : Int} (hr : rb < w.heap.size) (hK : Kept [rb] (badW w) w4) (h0 : 0 ≤ r) (h1 : r < 8) : PickedTok w.heap.size (w.heap.size + 1 + 1) r.toNat w4 := by
  have gs := badW_size w
  have k0 := (hK.block _ (by omega) (by simp; omega)).trans (badW_blk w 0 (by omega))
  have k1 := (hK.block _ (by omega) (by simp; omega)).trans (badW_blk w 1 (by omega))
  have k2 := (hK.block _ (by omega) (by simp; omega)).trans (badW_blk w 2 (by omega))
  have hr8 : r.toNat < (badE w.heap.size).length := by show _ < 8; omega
  have hmem := List.getElem_mem hr8
  obtain ⟨hok, k, s, ao, m, l, fp, hx, hways⟩ := badE_form _ _ hmem
  have hc : ∀ j, j < 4 → w4.cell? ⟨w.heap.size + 1 + 1, r.toNat * 4 + j, none⟩ = (tokE k s ao m l fp).cells[j]? := fun j hj => by
    rw [cell_of_row w4 (w.heap.size + 1 + 1) (r.toNat * 4 + j) _ _ _ k2, List.getElem?_toArray, flatMap_at (f := Elem.cells) (badE_len _) hr8 hj, hx]
  rw [hx] at hok
  obtain ⟨o1, o2, o3, o4⟩ := hok
  have b1 : okInt k := ⟨by have : 0 ≤ k := o2; omega, by have : k ≤ 4 := o3; omega⟩
  have b2 : okStr s := by unfold okStr maxLen; have : s.size ≤ 1000 := o1; omega
  refine ⟨k, s, ao, m, l, fp, hc 0 (by omega), hc 1 (by omega), hc 2 (by omega), hc 3 (by omega), ?_, ⟨o1, o2, o3, o4⟩, ?_, ?_⟩
  · rcases hways with ⟨rfl, rfl, rfl, rfl⟩ | ⟨rfl, rfl, rfl, rfl⟩ | ⟨rfl, rfl, rfl, rfl⟩
    · exact ⟨_, rfl, b1, b2, slice_empty sStr _ _ _ (by simp)⟩
    · exact ⟨_, rfl, b1, b2, lit_strs (l := [⟨#[98]⟩, ⟨#[97]⟩]) k0 (by decide) (by decide) (by decide) 2 rfl⟩
    · exact ⟨_, rfl, b1, b2, lit_strs (l := [⟨#[49]⟩]) k1 (by decide) (by decide) (by decide) 1 rfl⟩
  · intro b hb
    rcases hways with ⟨rfl, _⟩ | ⟨rfl, _⟩ | ⟨rfl, _⟩ <;> simp at hb <;> omega
  · intro b hb
    rcases hways with ⟨rfl, _⟩ | ⟨rfl, _⟩ | ⟨rfl, _⟩ <;> simp at hb <;> subst hb
    · exact ⟨_, _, _, k0, by decide⟩
    · exact ⟨_, _, _, k1, by decide⟩

/-- append of one token out of its literal's own block. -/
theorem wp_append_tokE {w : World} {ops : Array Oper} {rest : List Oper} {o : Oper} {a : Act} {Q : Exit → Act → World → Prop} (hg : o.guard = none) (s y : Operand)
    (ho : o.op = .call { callee := .builtin .append, args := #[s, y], argTypes := #[31, 31] })
    (base : Nat) (v : Value) (L : List (Elem Tok)) (hs : a.eval s = v) (hown : RowE sTok base 36 v L w) (k : Int) (x : ByteArray) (b : Bool) (ao : Option Addr) (m c : Nat) (l : List ByteArray) (fp : List Nat)
    (hy : a.eval y = .slice (some ⟨w.heap.size, 0, none⟩) 1 1) (hR : sTok.R w [.int .i64 k, .string x, .bool b, .slice ao m c] ⟨k, x, b, l⟩ fp) (hlo : ∀ b ∈ fp, base ≤ b) (hty : ∀ b ∈ fp, ∃ cur t fr, w.heap[b]? = some (.cells cur t fr) ∧ t ≠ 36)
    (h63 : L.length ≤ 2000000) (hbase : base ≤ w.heap.size)
    (h : ∀ v' w', RowE sTok base 36 v' (L ++ [⟨[.int .i64 k, .string x, .bool b, .slice ao m c], ⟨k, x, b, l⟩, fp⟩]) w' → w.grownBy w' v.ownBlock → wpList Try.prog ops Q rest (a.put o.dst v') w') :
    wpList Try.prog ops Q (o :: rest) a (w.alloc (.cells #[.int .i64 k, .string x, .bool b, .slice ao m c] 36)) := by
  have hb := alloc_below' w (.cells #[.int .i64 k, .string x, .bool b, .slice ao m c] 36)
  refine wp_append_rowE (S := sTok) ti_tok rfl (by decide) _ (X := [⟨[.int .i64 k, .string x, .bool b, .slice ao m c], ⟨k, x, b, l⟩, fp⟩]) hg s y ho base v hs (hown.below hb) w.heap.size 1 1 hy rfl ?_ ?_ ?_ ?_ ?_ ?_ (by unfold maxLen; omega) (by omega) (by simp; omega) fun v' w' a b => h v' w' a (grown_trans (World.grownBy_alloc _ _ _) b)
  · intro x hx; obtain rfl := List.mem_singleton.1 hx; rfl
  · intro x hx; obtain rfl := List.mem_singleton.1 hx; simp [Value.oneCell']
  · intro j u hj
    rw [World.cell?_alloc_at _ _ _ _ rfl]
    simpa using hj
  · intro x hx; obtain rfl := List.mem_singleton.1 hx; exact sTok.below hR hb
  · intro x hx; obtain rfl := List.mem_singleton.1 hx; exact hlo
  · intro x hx b' hb'
    obtain rfl := List.mem_singleton.1 hx
    obtain ⟨cur, t, fr, h1, h2⟩ := hty b' hb'
    exact ⟨cur, t, fr, (hb.block b' (Array.getElem?_eq_some_iff.1 h1).1).trans h1, h2⟩

theorem okApp {L : List (Elem Tok)} {x : Elem Tok} (h : ∀ x ∈ L, okTok x.d) (hx : okTok x.d) : ∀ y ∈ L ++ [x], okTok y.d := fun y hy => by
  rcases List.mem_append.1 hy with hy | hy
  · exact h y hy
  · obtain rfl := List.mem_singleton.1 hy; exact hx
theorem okApp2 {L : List (Elem Tok)} {x x' : Elem Tok} (h : ∀ x ∈ L, okTok x.d) (hx : okTok x.d) (hx' : okTok x'.d) : ∀ y ∈ L ++ [x, x'], okTok y.d := fun y hy => by
  rcases List.mem_append.1 hy with hy | hy
  · exact h y hy
  · simp only [List.mem_cons, List.not_mem_nil, or_false] at hy
    rcases hy with rfl | rfl
    · exact hx
    · exact hx'
theorem grownRd {rb p B : Nat} {w w' : World} {ob : Option Nat} (h : Rd w rb p) (hg : w.grownBy w' ob) (hr : rb < B) (ho : ∀ b, ob = some b → B ≤ b) : Rd w' rb p := by
  obtain ⟨⟨a, l, cap, fp, h2, h3, h4, h5⟩, h6⟩ := h
  have hlt := (Array.getElem?_eq_some_iff.1 h2).1
  have hblk : ∀ b, b ≤ rb → w'.heap[b]? = w.heap[b]? := fun b hb => hg.block b (by omega) (by intro he; have := ho b he.symm; omega)
  exact ⟨⟨a, l, cap, fp, (hblk rb (Nat.le_refl _)).trans h2, (sSlice sByte).frame (fun b hb => hblk b (Nat.le_of_lt (h4 b hb))) h3, h4, h5⟩, h6⟩
theorem grownKept {rb : Nat} {w0 w w' : World} {ob : Option Nat} (h : Kept [rb] w0 w) (hg : w.grownBy w' ob) (ho : ∀ b, ob = some b → w0.heap.size ≤ b) : Kept [rb] w0 w' :=
  ⟨hg.os.trans h.os, hg.tape.trans h.tape, hg.output.trans h.output, Nat.le_trans h.size hg.size, fun k hk hn => (hg.block k (Nat.lt_of_lt_of_le hk h.size) (by intro he; have := ho k he.symm; omega)).trans (h.block k hk hn)⟩
theorem rdSet {rb g p : Nat} {w : World} (h : Rd w rb p) (hr : rb < g) (o : Nat) (u : Value) : Rd (w.setCell ⟨g, o, none⟩ u) rb p :=
  h.kept ((Kept.refl [g] w).setCell (p := ⟨g, o, none⟩) (by simp) u) (fun b hb => by have e : b = g := (by simpa using hb); omega)
theorem keptSet {rb g : Nat} {w w' : World} (hk : Kept [rb] w w') (hg : w.heap.size ≤ g) (u : Value) (o : Nat) : Kept [rb] w (w'.setCell ⟨g, o, none⟩ u) :=
  ⟨hk.os, hk.tape, hk.output, by simp [World.setCell]; exact hk.size, fun k h1 h2 => (Below.heap_setCell _ _ _ _ (by show k ≠ g; omega)).trans (hk.block k h1 h2)⟩
/-- Tokens are drawn, by at most n picks. -/
def DrawnToks (rb p n : Nat) (least : Nat) (w : World) (e : Ending) (w' : World) : Prop :=
  ∃ (v : Value) (L : List (Elem Tok)) (q : Nat), e = .returned v ∧ RowE sTok w.heap.size 36 v L w' ∧ (∀ x ∈ L, okTok x.d) ∧ least ≤ L.length ∧ L.length ≤ 61 ∧ q ≤ p + n ∧ Rd w' rb q ∧ Kept [rb] w w'

/-- .. 'odd' of 1 is true. -/
def OddT (rb p : Nat) (n : Int) (w : World) (e : Ending) (w' : World) : Prop := ∃ b : Bool, ∃ q : Nat, e = .returned (.bool b) ∧ Hid (n = 1 → b = true) ∧ p ≤ q ∧ q ≤ p + 1 ∧ Rd w' rb q ∧ Kept [rb] w w'
set_option maxHeartbeats 1000000 in
theorem oddT (rb p : Nat) (n : Int) (w : World) (H : Rd w rb p) (hp : p < 1000000) (hn : n ≤ 1000000) (hn0 : 0 ≤ n) :
    Calls Try.prog 29 #[.pointer (some ⟨rb, 0, none⟩), .int .i64 n] w (OddT rb p n w) := by
  by_cases h0 : 0 < n
  · go_enter Try.func29, Try.ntmps29
    go_wp2_with (go_at_call 17; refine (pick _ _ _ _ H hp hn (by omega)).mono ?_; rintro e w' ⟨r, rfl, hr0, hr1, hr2, hr3⟩)
    go_ret
    exact ⟨_, p + 1, rfl, (fun h => by simp; omega), by omega, by omega, hr2, hr3⟩
  · have e0 : n = 0 := by omega
    subst e0
    go_enter Try.func29, Try.ntmps29
    go_wp2
    go_ret
    exact ⟨_, p, rfl, (fun h => absurd h (by decide)), by omega, by omega, H, Kept.refl _ _⟩

set_option maxHeartbeats 8000000 in
set_option maxRecDepth 100000 in
theorem l20Tokens (rb p : Nat) (n : Int) (w : World) (H : Rd w rb p) (hp : p ≤ 100000) (hn : n ≤ 100) (hn0 : 0 ≤ n) (least : Nat) (hl : least ≤ 1) (hl1 : 0 < least → n = 1) :
    Calls Try.prog 41 #[.pointer (some ⟨rb, 0, none⟩), .int .i64 n] w (DrawnToks rb p 300 least w) := by
  have hrb := H.lt
  go_enter Try.func41, Try.ntmps41
  go_wp2_with fail
  refine (l20Line rb p _ _ H hp (by omega) (by omega)).mono ?_
  rintro e w1 ⟨s, q1, rfl, hs, hq1, hR1, hK1⟩
  go_wp2_with fail
  refine (spec_TokensOf_row s _ (by unfold maxLen; omega)).mono ?_
  rintro e w2 ⟨v, rfl, hrow, hfr, hB2⟩
  have hcnt := (tokRes_all s).1
  obtain ⟨hE0, hok0⟩ := toks_rowE hrow hfr hs
  have hR2 := hR1.grow hB2
  have hK2 := hK1.trans (Kept.of_below (fp := [rb]) hB2)
  replace hE0 := hE0.lower hK1.size
  have HN : Hid (((tokRes s).1.map elemTok).length ≤ 60) := by show _ ≤ _; rw [List.length_map]; exact hcnt
  generalize (tokRes s).1.map elemTok = L0 at hE0 hok0 HN
  generalize (tokRes s).2 = b0 at *
  clear hrow hfr hcnt hB2 hR1 hK1
  obtain ⟨a, cap, rfl, hc, hm, hpos⟩ := hE0.val
  unfold maxLen at hm
  have hlen := HN.out
  go_wp2
  go_loopw [7] (fun i wr => ∃ (k q : Nat) (L : List (Elem Tok)), k ≤ L0.length ∧ i = .int .i64 k ∧ q ≤ q1 + 2 * k ∧ Hid (L.length = L0.length) ∧ RowE sTok w.heap.size 36 (.slice a L0.length cap) L wr ∧ (∀ x ∈ L, okTok x.d) ∧ Rd wr rb q ∧ Kept [rb] w wr) (fun i _ => L0.length - (intOf i).toNat)
  case atStart => exact ⟨0, q1, L0, by omega, rfl, by omega, rfl, hE0, hok0, hR2, hK2⟩
  case round =>
    obtain ⟨k, q, L, hk, rfl, hq, HL, hE, hok, hR, hK⟩ := hrel
    clear hE0 hok0 hR2 hK2
    by_cases hlt : k < L0.length
    · obtain ⟨g, rfl, hg1, hg2⟩ := hpos (by omega)
      go_wp2_with fail
      refine (pick rb q _ _ hR (by omega) (by omega) (by omega)).mono ?_
      rintro e w3 ⟨r, rfl, h0, h1, hR3, hK3⟩
      have hE3 := hE.keptR hK3 hrb
      have hK3' := hK.trans hK3
      by_cases hr : r = 0
      · have hr' : (r == 0) = true := by simp [hr]
        clear hr
        go_wp2_with fail
        refine (pick rb (q + 1) _ _ (hR3.grow (hidW_below w3)) (by omega) (by omega) (by omega)).mono ?_
        rintro e w4 ⟨r2, rfl, h20, h21, hR4, hK4⟩
        obtain ⟨hb, hn', l, hcl, hRl, hll, hlb, hty⟩ := hid_lits hR3.lt hK4 h20 (by omega)
        have hE4 := (hE3.below (hidW_below w3)).keptR hK4 hrb
        have hK4' := (hK3'.trans (Kept.of_below (fp := [rb]) (hidW_below w3))).trans hK4
        have hkL : k < L.length := by rw [HL.out]; exact hlt
        have hkm := List.getElem_mem hkL
        obtain ⟨hh, hcs, hi, hst, _⟩ := hE4.el _ hkm
        have HCS := Lib.hid hcs
        have c3 : w4.cell? ⟨g, k * 4 + 3, none⟩ = some hh := hE4.cellAt hkL (j := 3) (by decide) (by rw [hcs]; rfl)
        have f3 : w4.frozen? ⟨g, k * 4 + 3, none⟩ = false := hE4.frozen _
        have HOK := Lib.hid (hok _ hkm)
        have HI := Lib.hid (And.intro hi hst)
        obtain ⟨cur, fr, hcur⟩ := hty
        have HS : Hid (RowE sTok w.heap.size 36 (.slice (some ⟨g, 0, none⟩) L0.length cap) (L.set k ⟨[.int .i64 L[k].d.kind, .string L[k].d.text, .bool L[k].d.spaced, .slice (some ⟨hb, 0, none⟩) hn' hn'], ⟨L[k].d.kind, L[k].d.text, L[k].d.spaced, l⟩, [hb]⟩) (w4.setCell ⟨g, k * 4 + 3, none⟩ (.slice (some ⟨hb, 0, none⟩) hn' hn'))) := by
          refine hE4.set hkL (j := 3) (by decide) _ _ (by rw [HCS.out]; rfl) ⟨_, rfl, HI.out.1, HI.out.2, hRl⟩ (fun b hb' => ?_) (fun b hb' => ?_)
          · have e : b = hb := by simpa using hb'
            subst e
            have := hK3'.size; omega
          · have e : b = hb := by simpa using hb'
            subst e
            exact ⟨cur, _, fr, hcur, by decide⟩
        have HOKs : Hid (∀ x ∈ L.set k ⟨[.int .i64 L[k].d.kind, .string L[k].d.text, .bool L[k].d.spaced, .slice (some ⟨hb, 0, none⟩) hn' hn'], ⟨L[k].d.kind, L[k].d.text, L[k].d.spaced, l⟩, [hb]⟩, okTok x.d) := by
          intro x hx
          rcases List.mem_or_eq_of_mem_set hx with h | h
          · exact hok x h
          · subst h; exact ⟨HOK.out.1, HOK.out.2.1, HOK.out.2.2.1, hll⟩
        have HLs : Hid ((L.set k ⟨[.int .i64 L[k].d.kind, .string L[k].d.text, .bool L[k].d.spaced, .slice (some ⟨hb, 0, none⟩) hn' hn'], ⟨L[k].d.kind, L[k].d.text, L[k].d.spaced, l⟩, [hb]⟩).length = L0.length) := by show _ = _; rw [List.length_set]; exact HL.out
        have hR5 : Hid (Rd (w4.setCell ⟨g, k * 4 + 3, none⟩ (.slice (some ⟨hb, 0, none⟩) hn' hn')) rb (q + 1 + 1)) := hR4.kept ((Kept.refl [g] w4).setCell (p := ⟨g, k * 4 + 3, none⟩) (by simp) _) (fun b hb' => by have e : b = g := (by simpa using hb'); omega)
        have hK5 : Hid (Kept [rb] w (w4.setCell ⟨g, k * 4 + 3, none⟩ (.slice (some ⟨hb, 0, none⟩) hn' hn'))) := keptSet hK4' hg1 _ _
        clear hcs hok hE hE3 hE4 hi hst HCS HI hcur hR3 hK hK3 hK3' hK4 hR hRl hkm hR4 hK4'
        go_wp2
        go_roundw
        case rel => exact ⟨k + 1, q + 1 + 1, _, by omega, by go_num, by omega, HLs.out, HS.out, HOKs.out, hR5.out, hK5.out⟩
        case measure => simp [intOf]; omega
      · have hr' : (r == 0) = false := by simp [hr]
        clear hr
        go_wp2
        go_roundw
        case rel => exact ⟨k + 1, q + 1, L, by omega, by go_num, by omega, HL, hE3, hok, hR3, hK3'⟩
        case measure => simp [intOf]; omega
    · go_wp2_with fail
      refine (oddT rb q _ _ hR (by omega) (by omega) (by omega)).mono ?_
      rintro e w3 ⟨b, q2, rfl, hb1, hq1', hq2, hR3, hK3⟩
      have hE3 := hE.keptR hK3 hrb
      have hK3' := hK.trans hK3
      have HL1 := HL.out
      clear hE hK hR
      cases b
      · have HZ : Hid (least = 0) := by
          show _ = _
          by_cases h : 0 < least
          · exact absurd (hb1.out (hl1 h)) (by decide)
          · omega
        go_wp2
        go_ret
        exact ⟨_, L, q2, rfl, hE3, hok, by rw [HZ.out]; omega, by omega, by omega, hR3, hK3'⟩
      · go_wp2_with fail
        refine (pick rb q2 _ _ (hR3.grow (badW_below w3)) (by omega) (by omega) (by omega)).mono ?_
        rintro e w4 ⟨r2, rfl, h20, h21, hR4, hK4⟩
        obtain ⟨tk, ts, ao, tm, tl, tf, d0, d1, d2, d3, dR, dok, dlo, dty⟩ := bad_pick hR3.lt hK4 h20 (by omega)
        have hE4 := (hE3.below (badW_below w3)).keptR hK4 hrb
        have hK4' := (hK3'.trans (Kept.of_below (fp := [rb]) (badW_below w3))).trans hK4
        have hw4 : w3.heap.size ≤ w4.heap.size := Nat.le_trans (badW_below w3).size hK4.size
        have hw0 := hK4'.size
        have HT := Lib.hid (And.intro dR (And.intro (fun b hb => Nat.le_trans (Nat.le_trans hK3'.size (Nat.le_refl _)) (dlo b hb)) dty))
        have HR4 := Lib.hid hR4
        have HE4 := Lib.hid hE4
        have HOK := Lib.hid hok
        have HDK := Lib.hid dok
        have HK4' := Lib.hid hK4'
        clear hE3 hK3 hK3' hK4 hR3 dR dlo dty hE4 hR4 hok dok hK4' HL HN
        go_wp2_with (at_builtin; refine wp_append_tokE rfl (.tmp 51) (.tmp 59) rfl w.heap.size (.slice a L0.length cap) L rfl HE4.out tk ts false ao tm tm tl tf rfl HT.out.1 HT.out.2.1 HT.out.2.2 (by omega) hw0 ?_; intro v5 w5 hE5 hg5)
        go_ret
        exact ⟨v5, _, q2 + 1, rfl, hE5, okApp HOK.out HDK.out, by rw [List.length_append]; simp; omega, by rw [List.length_append]; simp; omega, by omega, grownRd HR4.out hg5 hrb HE4.out.mine, grownKept HK4'.out hg5 HE4.out.mine⟩

/-- append of two tokens out of their literal's own block. -/
theorem wp_append_tok2 {w : World} {ops : Array Oper} {rest : List Oper} {o : Oper} {a : Act} {Q : Exit → Act → World → Prop} (hg : o.guard = none) (s y : Operand)
    (ho : o.op = .call { callee := .builtin .append, args := #[s, y], argTypes := #[31, 31] })
    (base : Nat) (v : Value) (L : List (Elem Tok)) (hs : a.eval s = v) (hown : RowE sTok base 36 v L w) (k1 : Int) (x1 : ByteArray) (k2 : Int) (x2 : ByteArray)
    (hy : a.eval y = .slice (some ⟨w.heap.size, 0, none⟩) 2 2) (h1 : okTok ⟨k1, x1, false, []⟩) (h2 : okTok ⟨k2, x2, false, []⟩) (h63 : L.length ≤ 2000000) (hbase : base ≤ w.heap.size)
    (h : ∀ v' w', RowE sTok base 36 v' (L ++ [tokE k1 x1 none 0 [] [], tokE k2 x2 none 0 [] []]) w' → w.grownBy w' v.ownBlock → wpList Try.prog ops Q rest (a.put o.dst v') w') :
    wpList Try.prog ops Q (o :: rest) a (w.alloc (.cells #[.int .i64 k1, .string x1, .bool false, .slice none 0 0, .int .i64 k2, .string x2, .bool false, .slice none 0 0] 36)) := by
  have hb := alloc_below' w (.cells #[.int .i64 k1, .string x1, .bool false, .slice none 0 0, .int .i64 k2, .string x2, .bool false, .slice none 0 0] 36)
  have hX : ∀ {P : Elem Tok → Prop}, P (tokE k1 x1 none 0 [] []) → P (tokE k2 x2 none 0 [] []) → ∀ x ∈ [tokE k1 x1 none 0 [] [], tokE k2 x2 none 0 [] []], P x := fun a b x hx => by
    simp only [List.mem_cons, List.not_mem_nil, or_false] at hx
    rcases hx with rfl | rfl
    · exact a
    · exact b
  have R : ∀ (k : Int) (x : ByteArray) (W : World), okTok ⟨k, x, false, []⟩ → sTok.R W (tokE k x none 0 [] []).cells (tokE k x none 0 [] []).d [] := fun k x W h => by
    obtain ⟨a1, a2, a3, a4⟩ := h
    have b1 : okInt k := ⟨by have : 0 ≤ k := a2; omega, by have : k ≤ 4 := a3; omega⟩
    have b2 : okStr x := by unfold okStr maxLen; have : x.size ≤ 1000 := a1; omega
    exact ⟨_, rfl, b1, b2, slice_empty sStr W none 0 (by simp)⟩
  refine wp_append_rowE (S := sTok) ti_tok rfl (by decide) _ (X := [tokE k1 x1 none 0 [] [], tokE k2 x2 none 0 [] []]) hg s y ho base v hs (hown.below hb) w.heap.size 2 2 hy rfl (hX rfl rfl) (hX (by simp [tokE, Value.oneCell']) (by simp [tokE, Value.oneCell'])) ?_ (hX (R _ _ _ h1) (R _ _ _ h2)) (hX (by simp [tokE]) (by simp [tokE])) (hX (by simp [tokE]) (by simp [tokE])) (by unfold maxLen; omega) (by omega) (by simp; omega) fun v' w' a b => h v' w' a (grown_trans (World.grownBy_alloc _ _ _) b)
  intro j u hj
  rw [World.cell?_alloc_at _ _ _ _ rfl]
  simpa [tokE] using hj

theorem okA : okTok ⟨1, ⟨#[97]⟩, false, []⟩ := ⟨by decide, by decide, by decide, by decide⟩
theorem ok12 : okTok ⟨2, ⟨#[49, 50]⟩, false, []⟩ := ⟨by decide, by decide, by decide, by decide⟩
/-- A token is drawn. -/
def DrawnTok (rb p n : Nat) (w : World) (e : Ending) (w' : World) : Prop :=
  ∃ (k : Int) (s : ByteArray) (sp : Bool) (ao : Option Addr) (m c : Nat) (l : List ByteArray) (fp : List Nat) (q : Nat), e = .returned (.agg #[.int .i64 k, .string s, .bool sp, .slice ao m c]) ∧
    sTok.R w' [.int .i64 k, .string s, .bool sp, .slice ao m c] ⟨k, s, sp, l⟩ fp ∧ okTok ⟨k, s, sp, l⟩ ∧ (∀ b ∈ fp, w.heap.size ≤ b) ∧ (∀ b ∈ fp, ∃ cur t fr, w'.heap[b]? = some (.cells cur t fr) ∧ t ≠ 36) ∧ q ≤ p + n ∧ Rd w' rb q ∧ Kept [rb] w w'
theorem RowE.tokAt {base e g n cap : Nat} {L : List (Elem Tok)} {w : World} (h : RowE sTok base e (.slice (some ⟨g, 0, none⟩) n cap) L w) {i : Nat} (hi : i < L.length) :
    ∃ ao m c, w.cell? ⟨g, i * 4, none⟩ = some (.int .i64 L[i].d.kind) ∧ w.cell? ⟨g, i * 4 + 1, none⟩ = some (.string L[i].d.text) ∧ w.cell? ⟨g, i * 4 + 2, none⟩ = some (.bool L[i].d.spaced) ∧ w.cell? ⟨g, i * 4 + 3, none⟩ = some (.slice ao m c) ∧
      sTok.R w [.int .i64 L[i].d.kind, .string L[i].d.text, .bool L[i].d.spaced, .slice ao m c] L[i].d L[i].fp := by
  have hR := h.el _ (List.getElem_mem hi)
  have hR' := hR
  obtain ⟨hh, hcs, _, _, hK⟩ := hR
  obtain ⟨ao, c, rfl, -⟩ := open_rows hK
  have hc := fun j (hj : j < 4) u (hu : L[i].cells[j]? = some u) => h.cellAt hi hj hu
  rw [hcs] at hR'
  exact ⟨ao, _, c, hc 0 (by omega) _ (by rw [hcs]; rfl), hc 1 (by omega) _ (by rw [hcs]; rfl), hc 2 (by omega) _ (by rw [hcs]; rfl), hc 3 (by omega) _ (by rw [hcs]; rfl), hR'⟩
theorem blkKept {rb g : Nat} {w w' : World} {o : Obj} (h : w.heap[g]? = some o) (hk : Kept [rb] w w') (hn : g ≠ rb) : w'.heap[g]? = some o :=
  (hk.block g (Array.getElem?_eq_some_iff.1 h).1 (by simpa using hn)).trans h

theorem ty_sets {w : World} {g : Nat} {fp : List Nat} {e : TypeId} (h : ∀ b ∈ fp, ∃ cur t fr, w.heap[b]? = some (.cells cur t fr) ∧ t ≠ e) (hn : g ∉ fp) (v0 v1 v2 v3 : Value) :
    ∀ b ∈ fp, ∃ cur t fr, ((((w.setCell ⟨g, 0, none⟩ v0).setCell ⟨g, 1, none⟩ v1).setCell ⟨g, 2, none⟩ v2).setCell ⟨g, 3, none⟩ v3).heap[b]? = some (.cells cur t fr) ∧ t ≠ e := fun b hb => by
  obtain ⟨cur, t, fr, h1, h2⟩ := h b hb
  have hne : b ≠ g := fun e => hn (e ▸ hb)
  exact ⟨cur, t, fr, blk_other (blk_other (blk_other (blk_other h1 hne 0 v0) hne 1 v1) hne 2 v2) hne 3 v3, h2⟩

set_option maxHeartbeats 8000000 in
set_option maxRecDepth 100000 in
theorem l20Token (rb p : Nat) (n : Int) (w : World) (H : Rd w rb p) (hp : p ≤ 50000) (hn : n ≤ 100) (hn0 : 0 ≤ n) :
    Calls Try.prog 31 #[.pointer (some ⟨rb, 0, none⟩), .int .i64 n] w (DrawnTok rb p 700 w) := by
  have hrb := H.lt
  have hB0 := alloc_below' w (.cells #[.int .i64 0, .string ⟨#[]⟩, .bool false, .slice none 0 0] 36)
  have HX := Lib.hid (show (w.alloc (.cells #[.int .i64 0, .string ⟨#[]⟩, .bool false, .slice none 0 0] 36)).heap[w.heap.size]? = some (.cells #[.int .i64 0, .string ⟨#[]⟩, .bool false, .slice none 0 0] 36 (0, 0)) from by show (w.heap.push _)[_]? = _; simp)
  have hs0 : (w.alloc (.cells #[.int .i64 0, .string ⟨#[]⟩, .bool false, .slice none 0 0] 36)).heap.size = w.heap.size + 1 := Array.size_push _
  have HS := Lib.hid hs0
  clear hs0
  have hK0 : Kept [rb] w (w.alloc (.cells #[.int .i64 0, .string ⟨#[]⟩, .bool false, .slice none 0 0] 36)) := Kept.of_below hB0
  go_enter Try.func31, Try.ntmps31
  go_wp2_with fail
  refine (l20Tokens rb p _ _ (H.grow hB0) (by omega) (by omega) (by omega) 0 (by omega) (by omega)).mono ?_
  rintro e w1 ⟨v1, L, q1, rfl, hE1, hok1, -, hl1, hq1, hR1, hK1⟩
  rw [HS.out] at hE1
  have HX1 := Lib.hid (blkKept HX.out hK1 (by omega))
  have hK1' := hK0.trans hK1
  have hw1 : w.heap.size + 1 ≤ w1.heap.size := by have := hK1.size; rw [HS.out] at this; exact this
  go_wp2_with (at_builtin; refine wp_append_tok2 rfl (.tmp 7) (.tmp 10) rfl (w.heap.size + 1) v1 L rfl hE1 1 ⟨#[97]⟩ 2 ⟨#[49, 50]⟩ rfl okA ok12 (by omega) hw1 ?_; intro v2 w2 hE2 hg2)
  have hL2 : (L ++ [tokE 1 ⟨#[97]⟩ none 0 [] [], tokE 2 ⟨#[49, 50]⟩ none 0 [] []]).length = L.length + 2 := by simp
  have HOK := Lib.hid (okApp2 hok1 (x := tokE 1 ⟨#[97]⟩ none 0 [] []) (x' := tokE 2 ⟨#[49, 50]⟩ none 0 [] []) okA ok12)
  have HR2 := grownRd hR1 hg2 (by omega : rb < w.heap.size + 1) hE1.mine
  have HX2 := Lib.hid ((hg2.block _ (Array.getElem?_eq_some_iff.1 HX1.out).1 (fun h => by have := hE1.mine _ h.symm; omega)).trans HX1.out)
  have HK2 := grownKept hK1' hg2 (fun b hb => by have := hE1.mine b hb; omega)
  generalize (L ++ [tokE 1 ⟨#[97]⟩ none 0 [] [], tokE 2 ⟨#[49, 50]⟩ none 0 [] []]) = L2 at *
  clear hE1 hok1 hg2 HX1 hR1 hK1 hK1' HX hK0 hB0 H
  have HE2 := Lib.hid hE2
  have HK2' := Lib.hid HK2
  have hw2 := HK2.size
  go_wp2_with fail
  refine (odd rb q1 _ _ HR2 (by omega) (by omega) (by omega)).mono ?_
  rintro e w3 ⟨b, q2, rfl, hq2, hq3, hR3, hK3⟩
  have HE3 := Lib.hid (HE2.out.keptR hK3 (by omega))
  have HX3 := Lib.hid (blkKept HX2.out hK3 (by omega))
  have HK3 := Lib.hid (HK2'.out.trans hK3)
  have hw3s : w.heap.size + 1 ≤ w3.heap.size := (Array.getElem?_eq_some_iff.1 HX3.out).1
  clear hE2 HE2 HX2 HK2 HK2' hK3 HR2
  cases b
  · obtain ⟨a, cap, rfl, hc, hm, hpos⟩ := HE3.out.val
    unfold maxLen at hm
    obtain ⟨g, rfl, hg1, hg2⟩ := hpos (by omega)
    clear hpos
    go_wp2_with fail
    refine (pick rb q2 _ _ hR3 (by omega) (by omega) (by omega)).mono ?_
    rintro e w4 ⟨r, rfl, h0, h1, hR4, hK4⟩
    have HE4 := Lib.hid (HE3.out.keptR hK4 (by omega))
    have HX4 := Lib.hid (blkKept HX3.out hK4 (by omega))
    have HK4 := Lib.hid (HK3.out.trans hK4)
    have HR4 := Lib.hid hR4
    have hi : r.toNat < L2.length := by omega
    clear HE3 HX3 HK3 hK4 hR3 hR4
    obtain ⟨ao, tm, tc, d0, d1, d2, d3, dR⟩ := HE4.out.tokAt hi
    have dn : w.heap.size ∉ L2[r.toNat].fp := fun hx => by have := HE4.out.lo _ (List.getElem_mem hi) _ hx; omega
    have dlo := Lib.hid (show ∀ b ∈ L2[r.toNat].fp, w.heap.size ≤ b from fun b hx => by have := HE4.out.lo _ (List.getElem_mem hi) _ hx; omega)
    have qc0 : w4.cell? ⟨w.heap.size, 0, none⟩ = some (.int .i64 0) := cell_of_row _ _ 0 _ _ _ HX4.out
    have qc1 : w4.cell? ⟨w.heap.size, 1, none⟩ = some (.string ⟨#[]⟩) := cell_of_row _ _ 1 _ _ _ HX4.out
    have qc2 : w4.cell? ⟨w.heap.size, 2, none⟩ = some (.bool false) := cell_of_row _ _ 2 _ _ _ HX4.out
    have qc3 : w4.cell? ⟨w.heap.size, 3, none⟩ = some (.slice none 0 0) := cell_of_row _ _ 3 _ _ _ HX4.out
    have f0 : w4.frozen? ⟨w.heap.size, 0, none⟩ = false := frozen_of_row _ _ 0 _ _ HX4.out
    have f1 : w4.frozen? ⟨w.heap.size, 1, none⟩ = false := frozen_of_row _ _ 1 _ _ HX4.out
    have f2 : w4.frozen? ⟨w.heap.size, 2, none⟩ = false := frozen_of_row _ _ 2 _ _ HX4.out
    have f3 : w4.frozen? ⟨w.heap.size, 3, none⟩ = false := frozen_of_row _ _ 3 _ _ HX4.out
    have HOK1 := Lib.hid (HOK.out _ (List.getElem_mem hi))
    have dty := HE4.out.ty _ (List.getElem_mem hi)
    generalize L2[r.toNat].fp = tf at dR dn dlo dty
    have HTY := Lib.hid (ty_sets dty dn (.int .i64 L2[r.toNat].d.kind) (.string L2[r.toNat].d.text) (.bool L2[r.toNat].d.spaced) (.slice ao tm tc))
    clear dty
    have HBK := Lib.hid (blk_set (blk_set (blk_set (blk_set HX4.out 0 (.int .i64 L2[r.toNat].d.kind)) 1 (.string L2[r.toNat].d.text)) 2 (.bool L2[r.toNat].d.spaced)) 3 (.slice ao tm tc))
    have HDR := Lib.hid (sTok.setB (sTok.setB (sTok.setB (sTok.setB dR dn 0 (.int .i64 L2[r.toNat].d.kind)) dn 1 (.string L2[r.toNat].d.text)) dn 2 (.bool L2[r.toNat].d.spaced)) dn 3 (.slice ao tm tc))
    have HRF := Lib.hid (rdSet (rdSet (rdSet (rdSet HR4.out hrb 0 (.int .i64 L2[r.toNat].d.kind)) hrb 1 (.string L2[r.toNat].d.text)) hrb 2 (.bool L2[r.toNat].d.spaced)) hrb 3 (.slice ao tm tc))
    have HKF := Lib.hid (keptSet (keptSet (keptSet (keptSet HK4.out (Nat.le_refl _) (.int .i64 L2[r.toNat].d.kind) 0) (Nat.le_refl _) (.string L2[r.toNat].d.text) 1) (Nat.le_refl _) (.bool L2[r.toNat].d.spaced) 2) (Nat.le_refl _) (.slice ao tm tc) 3)
    clear dR dn
    go_wp2
    refine bodyPost_ret (results_cell_row rfl _ _ w.heap.size _ _ _ _ rfl HBK.out Try.underlying36 rfl (by kernel_rfl)) rfl ?_
    exact ⟨_, _, _, ao, tm, tc, _, tf, q2 + 1, rfl, HDR.out, HOK1.out, dlo.out, HTY.out, by omega, HRF.out, HKF.out⟩
  · go_wp2_with fail
    refine (l20Tokens rb q2 _ _ hR3 (by omega) (by omega) (by omega) 1 (by omega) (by omega)).mono ?_
    rintro e w4 ⟨v4, L4, q4, rfl, hE4, hok4, hl4, hl5, hq4, hR4, hK4⟩
    have hw3 : w.heap.size + 1 ≤ w3.heap.size := hw3s
    have HE4 := Lib.hid (hE4.lower hw3)
    have HX4 := Lib.hid (blkKept HX3.out hK4 (by omega))
    have HK4 := Lib.hid (HK3.out.trans hK4)
    have HR4 := Lib.hid hR4
    have HOK4 := Lib.hid hok4
    clear HE3 HX3 HK3 hK4 hR3 hR4 hE4 hok4
    obtain ⟨a, cap, rfl, hc, hm, hpos⟩ := HE4.out.val
    unfold maxLen at hm
    obtain ⟨g, rfl, hg1, hg2⟩ := hpos (by omega)
    clear hpos
    have hi : L4.length - 1 < L4.length := by omega
    have h6 : ((L4.length : Int) - 1).toNat = L4.length - 1 := by omega
    obtain ⟨ao, tm, tc, d0, d1, d2, d3, dR⟩ := HE4.out.tokAt hi
    have dn : w.heap.size ∉ L4[L4.length - 1].fp := fun hx => by have := HE4.out.lo _ (List.getElem_mem hi) _ hx; omega
    have dlo := Lib.hid (show ∀ b ∈ L4[L4.length - 1].fp, w.heap.size ≤ b from fun b hx => by have := HE4.out.lo _ (List.getElem_mem hi) _ hx; omega)
    have qc0 : w4.cell? ⟨w.heap.size, 0, none⟩ = some (.int .i64 0) := cell_of_row _ _ 0 _ _ _ HX4.out
    have qc1 : w4.cell? ⟨w.heap.size, 1, none⟩ = some (.string ⟨#[]⟩) := cell_of_row _ _ 1 _ _ _ HX4.out
    have qc2 : w4.cell? ⟨w.heap.size, 2, none⟩ = some (.bool false) := cell_of_row _ _ 2 _ _ _ HX4.out
    have qc3 : w4.cell? ⟨w.heap.size, 3, none⟩ = some (.slice none 0 0) := cell_of_row _ _ 3 _ _ _ HX4.out
    have f0 : w4.frozen? ⟨w.heap.size, 0, none⟩ = false := frozen_of_row _ _ 0 _ _ HX4.out
    have f1 : w4.frozen? ⟨w.heap.size, 1, none⟩ = false := frozen_of_row _ _ 1 _ _ HX4.out
    have f2 : w4.frozen? ⟨w.heap.size, 2, none⟩ = false := frozen_of_row _ _ 2 _ _ HX4.out
    have f3 : w4.frozen? ⟨w.heap.size, 3, none⟩ = false := frozen_of_row _ _ 3 _ _ HX4.out
    have HOK1 := Lib.hid (HOK4.out _ (List.getElem_mem hi))
    have dty := HE4.out.ty _ (List.getElem_mem hi)
    generalize L4[L4.length - 1].fp = tf at dR dn dlo dty
    have HTY := Lib.hid (ty_sets dty dn (.int .i64 L4[L4.length - 1].d.kind) (.string L4[L4.length - 1].d.text) (.bool L4[L4.length - 1].d.spaced) (.slice ao tm tc))
    clear dty
    have HBK := Lib.hid (blk_set (blk_set (blk_set (blk_set HX4.out 0 (.int .i64 L4[L4.length - 1].d.kind)) 1 (.string L4[L4.length - 1].d.text)) 2 (.bool L4[L4.length - 1].d.spaced)) 3 (.slice ao tm tc))
    have HDR := Lib.hid (sTok.setB (sTok.setB (sTok.setB (sTok.setB dR dn 0 (.int .i64 L4[L4.length - 1].d.kind)) dn 1 (.string L4[L4.length - 1].d.text)) dn 2 (.bool L4[L4.length - 1].d.spaced)) dn 3 (.slice ao tm tc))
    have HRF := Lib.hid (rdSet (rdSet (rdSet (rdSet HR4.out hrb 0 (.int .i64 L4[L4.length - 1].d.kind)) hrb 1 (.string L4[L4.length - 1].d.text)) hrb 2 (.bool L4[L4.length - 1].d.spaced)) hrb 3 (.slice ao tm tc))
    have HKF := Lib.hid (keptSet (keptSet (keptSet (keptSet HK4.out (Nat.le_refl _) (.int .i64 L4[L4.length - 1].d.kind) 0) (Nat.le_refl _) (.string L4[L4.length - 1].d.text) 1) (Nat.le_refl _) (.bool L4[L4.length - 1].d.spaced) 2) (Nat.le_refl _) (.slice ao tm tc) 3)
    clear dR dn
    go_wp2
    refine bodyPost_ret (results_cell_row rfl _ _ w.heap.size _ _ _ _ rfl HBK.out Try.underlying36 rfl (by kernel_rfl)) rfl ?_
    exact ⟨_, _, _, ao, tm, tc, _, tf, q4, rfl, HDR.out, HOK1.out, dlo.out, HTY.out, by omega, HRF.out, HKF.out⟩

end Go.Proofs.Ytiaiggjfepoahaa

/- Copies of tokens: the model's own. -/
namespace Go.Proofs.Ytiaiggjfepoahaa
open Go.RowKit
/-- Blocks of tokens and of their texts alone. -/
def TokTy (w : World) (fp : List Nat) : Prop := ∀ b ∈ fp, ∃ cur t fr, w.heap[b]? = some (.cells cur t fr) ∧ (t = 36 ∨ t = 9)
theorem TokTy.same {w w' : World} {fp : List Nat} (h : TokTy w fp) (hb : ∀ b ∈ fp, b < w.heap.size → w'.heap[b]? = w.heap[b]?) : TokTy w' fp := fun b hb' => by
  obtain ⟨cur, t, fr, h1, h2⟩ := h b hb'
  exact ⟨cur, t, fr, (hb b hb' (Array.getElem?_eq_some_iff.1 h1).1).trans h1, h2⟩
theorem TokTy.below {w w' : World} {fp : List Nat} (h : TokTy w fp) (hb : Below w.heap.size w w') : TokTy w' fp := h.same fun b _ hl => hb.block b hl
end Go.Proofs.Ytiaiggjfepoahaa

/- The program's reading of parameters: the closing bracket. -/
namespace Go.Proofs.Ytiaiggjfepoahaa
open Go.RowKit
end Go.Proofs.Ytiaiggjfepoahaa

/- The program's reading of parameters. -/
namespace Go.Proofs.Ytiaiggjfepoahaa
open Go.RowKit
end Go.Proofs.Ytiaiggjfepoahaa

/- Parameters as they are read: the model. -/
namespace Go.Proofs.Ytiaiggjfepoahaa
open Go.RowKit
end Go.Proofs.Ytiaiggjfepoahaa
