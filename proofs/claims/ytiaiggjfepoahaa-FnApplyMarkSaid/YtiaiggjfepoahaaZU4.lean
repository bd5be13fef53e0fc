/- Texts that the proof of U stands on, in one file. -/
import Derived.Test.YtiaiggjfepoahaaZU3
import Derived.Test.YtiaiggjfepoahaaZU2
import Derived.Deep.RegionHeld3
import Derived.Deep.QuietTactic
import Derived.BigQuiet
import Derived.Outline
import Derived.StillTailTactics
set_option linter.unusedVariables false
set_option linter.unusedSimpArgs false
/- Values: what comes out lies within bounds; there is always an answer. No program. -/
namespace Go.Proofs.Ytiaiggjfepoahaa
open Go.RowKit

theorem inR_iff {n : Int} : inR n = true ↔ -1000000 ≤ n ∧ n ≤ 1000000 := by unfold inR; simp
theorem bit1_in (b : Bool) : inR (bit1 b) = true := by cases b <;> decide
theorem inR_neg {n : Int} (h : inR n = true) : inR (-n) = true := by rw [inR_iff] at h ⊢; omega
theorem applyM_in (s : List UInt8) (a b : Int) : inR (applyM s a b).1 = true ∧ 0 ≤ (applyM s a b).2 ∧ (applyM s a b).2 ≤ 3 := by
  unfold applyM
  split
  · exact ⟨by decide, by decide, by decide⟩
  · split
    · exact ⟨by decide, by decide, by decide⟩
    · split
      · rename_i h; exact ⟨h, (by decide : (0 : Int) ≤ 0), (by decide : (0 : Int) ≤ 3)⟩
      · exact ⟨by decide, by decide, by decide⟩
theorem numRes_in (s : List UInt8) : -1 ≤ numRes s ∧ numRes s ≤ 1000000 := by
  unfold numRes
  split
  · exact ⟨by decide, by decide⟩
  · split
    · exact ⟨by decide, by decide⟩
    · rename_i h1 h2
      have key : ∀ (s : List UInt8) (n : Int), 0 ≤ n → s.all isDig = true → 0 ≤ s.foldl (fun n c => 10 * n + ((c.toNat : Int) - 48)) n := by
        intro s
        induction s with
        | nil => intro n hn _; exact hn
        | cons c r ih =>
          intro n hn hd
          rw [List.all_cons, Bool.and_eq_true] at hd
          have hc := hd.1
          unfold isDig at hc
          rw [decide_eq_true_eq] at hc
          exact ih _ (by show 0 ≤ 10 * n + ((c.toNat : Int) - 48); omega) hd.2
      have h3 : s.all isDig = true := by
        cases h : s.all isDig
        · exact absurd (.inr (.inr h)) h1
        · rfl
      have := key s 0 (Int.le_refl _) h3
      unfold digs at h2 ⊢
      omega
def posQ : Ask → Nat
  | .one k => k
  | .marks k _ => k
  | .more _ _ e _ => e
  | .choice k => k
def okQ (l : List Tok) : Ask → Prop
  | .one k => k ≤ l.length
  | .marks k _ => k ≤ l.length
  | .more _ n e f => f = 0 ∧ e ≤ l.length ∧ inR n = true
  | .choice k => k ≤ l.length
def isMore : Ask → Prop
  | .more _ _ _ _ => True
  | _ => False
theorem mkAt_lt {l : List Tok} {k : Nat} {s : List UInt8} (h : mkAt l k s = true) : ∃ hk : k < l.length, isMk l[k] s = true := by
  unfold mkAt at h
  split at h
  · rename_i hk; exact ⟨hk, h⟩
  · simp at h
/-- What comes out: its value, the place behind, the fault. -/
def Fine (l : List Tok) (d : Nat) (q : Ask) (r : VRes) : Prop :=
  inR r.1 = true ∧ r.2.1 ≤ l.length + d ∧ (r.2.2 = 0 → r.2.1 ≤ l.length ∧ posQ q ≤ r.2.1 ∧ (isMore q ∨ posQ q < r.2.1)) ∧ 0 ≤ r.2.2 ∧ r.2.2 ≤ 3
theorem more_bad {l : List Tok} {d rank e : Nat} {n f : Int} {r : VRes} (h : pv l d (.more rank n e f) = some r) (hf : f ≠ 0) : r = (n, e, f) := by
  cases d with
  | zero => simp [pv] at h
  | succ d =>
    unfold pv at h
    rw [dif_neg (fun h' => hf h'.1)] at h
    simpa using h.symm
theorem pv_fine (l : List Tok) : ∀ (d : Nat) (q : Ask) (r : VRes), okQ l q → pv l d q = some r → Fine l d q r := by
  intro d
  induction d with
  | zero => intro q r _ h; simp [pv] at h
  | succ d ih =>
    intro q r hq h
    cases q with
    | one k =>
      have hk' : k ≤ l.length := hq
      unfold pv at h
      by_cases hk : k < l.length
      · rw [dif_pos hk] at h
        by_cases h1 : isMk l[k] [33] = true
        · rw [if_pos h1] at h
          obtain ⟨a, h2, h3⟩ := bind_some h
          obtain ⟨g1, g2, g3, g4, g5⟩ := ih _ _ (show okQ l (.one (k + 1)) from hk) h2
          simp only [Option.some.injEq] at h3
          subst h3
          refine ⟨bit1_in _, by show a.2.1 ≤ _; omega, fun h0 => ?_, g4, g5⟩
          obtain ⟨g6, g7, -⟩ := g3 h0
          have g7' : k + 1 ≤ a.2.1 := g7
          exact ⟨g6, by show k ≤ a.2.1; omega, .inr (by show k < a.2.1; omega)⟩
        rw [if_neg h1] at h
        by_cases h2 : isMk l[k] [45] = true
        · rw [if_pos h2] at h
          obtain ⟨a, h4, h3⟩ := bind_some h
          obtain ⟨g1, g2, g3, g4, g5⟩ := ih _ _ (show okQ l (.one (k + 1)) from hk) h4
          simp only [Option.some.injEq] at h3
          subst h3
          refine ⟨inR_neg g1, by show a.2.1 ≤ _; omega, fun h0 => ?_, g4, g5⟩
          obtain ⟨g6, g7, -⟩ := g3 h0
          have g7' : k + 1 ≤ a.2.1 := g7
          exact ⟨g6, by show k ≤ a.2.1; omega, .inr (by show k < a.2.1; omega)⟩
        rw [if_neg h2] at h
        by_cases h3 : isMk l[k] [40] = true
        · rw [if_pos h3] at h
          obtain ⟨a, h4, h5⟩ := bind_some h
          obtain ⟨g1, g2, g3, g4, g5⟩ := ih _ _ (show okQ l (.choice (k + 1)) from hk) h4
          simp only [Option.some.injEq] at h5
          subst h5
          refine ⟨g1, by show a.2.1 + 1 ≤ _; omega, fun h0 => ?_, ?_, ?_⟩
          · have h0' : (if a.2.2 = 0 ∧ mkAt l a.2.1 [41] = false then (1 : Int) else a.2.2) = 0 := h0
            split at h0'
            · simp at h0'
            · rename_i h6
              obtain ⟨g6, g7, -⟩ := g3 h0'
              have g7' : k + 1 ≤ a.2.1 := g7
              have h7 : mkAt l a.2.1 [41] = true := by
                cases hm : mkAt l a.2.1 [41]
                · exact absurd ⟨h0', hm⟩ h6
                · rfl
              obtain ⟨h8, -⟩ := mkAt_lt h7
              exact ⟨by show a.2.1 + 1 ≤ _; omega, by show k ≤ a.2.1 + 1; omega, .inr (by show k < a.2.1 + 1; omega)⟩
          · show 0 ≤ (if a.2.2 = 0 ∧ mkAt l a.2.1 [41] = false then (1 : Int) else a.2.2)
            split <;> omega
          · show (if a.2.2 = 0 ∧ mkAt l a.2.1 [41] = false then (1 : Int) else a.2.2) ≤ 3
            split <;> omega
        rw [if_neg h3] at h
        by_cases h4 : (l[k]).kind = 1
        · rw [if_pos h4] at h
          simp only [Option.some.injEq] at h
          subst h
          exact ⟨rfl, by show k + 1 ≤ _; omega, fun _ => ⟨hk, by show k ≤ k + 1; omega, .inr (by show k < k + 1; omega)⟩, (by decide : (0 : Int) ≤ 0), (by decide : (0 : Int) ≤ 3)⟩
        rw [if_neg h4] at h
        by_cases h5 : (l[k]).kind = 2 ∧ 0 ≤ numRes (l[k]).text.toList
        · rw [if_pos h5] at h
          simp only [Option.some.injEq] at h
          subst h
          have := numRes_in (l[k]).text.toList
          exact ⟨by rw [inR_iff]; show -1000000 ≤ numRes (l[k]).text.toList ∧ numRes (l[k]).text.toList ≤ 1000000; have := h5.2; omega, by show k + 1 ≤ _; omega, fun _ => ⟨hk, by show k ≤ k + 1; omega, .inr (by show k < k + 1; omega)⟩, (by decide : (0 : Int) ≤ 0), (by decide : (0 : Int) ≤ 3)⟩
        rw [if_neg h5] at h
        simp only [Option.some.injEq] at h
        subst h
        exact ⟨rfl, by show k ≤ _; omega, fun h0 => absurd (show (1 : Int) = 0 from h0) (by decide), (by decide : (0 : Int) ≤ 1), (by decide : (1 : Int) ≤ 3)⟩
      · rw [dif_neg hk] at h
        simp only [Option.some.injEq] at h
        subst h
        exact ⟨rfl, by show k ≤ _; omega, fun h0 => absurd (show (1 : Int) = 0 from h0) (by decide), (by decide : (0 : Int) ≤ 1), (by decide : (1 : Int) ≤ 3)⟩
    | marks k rank =>
      unfold pv at h
      obtain ⟨a, h1, h2⟩ := bind_some h
      obtain ⟨g1, g2, g3, g4, g5⟩ := ih _ _ (show okQ l (.one k) from hq) h1
      by_cases hf : a.2.2 = 0
      · obtain ⟨g6, g7, g8⟩ := g3 hf
        have g9 : k < a.2.1 := g8.resolve_left (fun h => h)
        obtain ⟨e1, e2, e3, e4, e5⟩ := ih _ _ (show okQ l (.more rank a.1 a.2.1 a.2.2) from ⟨hf, g6, g1⟩) h2
        refine ⟨e1, by omega, fun h0 => ?_, e4, e5⟩
        obtain ⟨e6, e7, -⟩ := e3 h0
        have e7' : a.2.1 ≤ r.2.1 := e7
        exact ⟨e6, by show k ≤ r.2.1; omega, .inr (by show k < r.2.1; omega)⟩
      · have := more_bad h2 hf
        subst this
        exact ⟨g1, by show a.2.1 ≤ _; omega, fun h0 => absurd h0 hf, g4, g5⟩
    | more rank n p f =>
      obtain ⟨hf, hp, hn⟩ := hq
      unfold pv at h
      by_cases hk : f = 0 ∧ p < l.length
      · rw [dif_pos hk] at h
        by_cases h1 : rankM (l[p]'hk.2) < rank
        · rw [if_pos h1] at h
          simp only [Option.some.injEq] at h
          subst h
          exact ⟨hn, by show p ≤ _; omega, fun _ => ⟨hp, Nat.le_refl _, .inl trivial⟩, by show 0 ≤ f; omega, by show f ≤ 3; omega⟩
        rw [if_neg h1] at h
        obtain ⟨a, h2, h3⟩ := bind_some h
        obtain ⟨g1, g2, g3, g4, g5⟩ := ih _ _ (show okQ l (.marks (p + 1) _) from hk.2) h2
        by_cases h4 : a.2.2 ≠ 0
        · rw [if_pos h4] at h3
          simp only [Option.some.injEq] at h3
          subst h3
          exact ⟨rfl, by show a.2.1 ≤ _; omega, fun h0 => absurd h0 h4, g4, g5⟩
        · rw [if_neg h4] at h3
          have h40 : a.2.2 = 0 := by omega
          obtain ⟨g6, g7, g8⟩ := g3 h40
          have g9 : p + 1 < a.2.1 := g8.resolve_left (fun h => h)
          obtain ⟨m1, m2, m3⟩ := applyM_in (l[p]'hk.2).text.toList n a.1
          by_cases hw : (applyM (l[p]'hk.2).text.toList n a.1).2 = 0
          · obtain ⟨e1, e2, e3, e4, e5⟩ := ih _ _ (show okQ l (.more rank _ a.2.1 _) from ⟨hw, g6, m1⟩) h3
            refine ⟨e1, by omega, fun h0 => ?_, e4, e5⟩
            obtain ⟨e6, e7, -⟩ := e3 h0
            have e7' : a.2.1 ≤ r.2.1 := e7
            exact ⟨e6, by show p ≤ r.2.1; omega, .inl trivial⟩
          · have := more_bad h3 hw
            subst this
            exact ⟨m1, by show a.2.1 ≤ _; omega, fun h0 => absurd h0 hw, m2, m3⟩
      · rw [dif_neg hk] at h
        simp only [Option.some.injEq] at h
        subst h
        exact ⟨hn, by show p ≤ _; omega, fun _ => ⟨hp, Nat.le_refl _, .inl trivial⟩, by show 0 ≤ f; omega, by show f ≤ 3; omega⟩
    | choice k =>
      unfold pv at h
      obtain ⟨a, h1, h2⟩ := bind_some h
      obtain ⟨g1, g2, g3, g4, g5⟩ := ih _ _ (show okQ l (.marks k 1) from hq) h1
      by_cases h3 : a.2.2 = 0 ∧ mkAt l a.2.1 [63] = true
      · rw [if_pos h3] at h2
        obtain ⟨g6, g7, g8⟩ := g3 h3.1
        have g9 : k < a.2.1 := g8.resolve_left (fun h => h)
        obtain ⟨q1, -⟩ := mkAt_lt h3.2
        obtain ⟨b, h4, h5⟩ := bind_some h2
        obtain ⟨e1, e2, e3, e4, e5⟩ := ih _ _ (show okQ l (.choice (a.2.1 + 1)) from q1) h4
        by_cases h6 : b.2.2 ≠ 0
        · rw [if_pos h6] at h5
          simp only [Option.some.injEq] at h5
          subst h5
          exact ⟨rfl, by show b.2.1 ≤ _; omega, fun h0 => absurd h0 h6, e4, e5⟩
        rw [if_neg h6] at h5
        have h60 : b.2.2 = 0 := by omega
        obtain ⟨e6, e7, -⟩ := e3 h60
        have e7' : a.2.1 + 1 ≤ b.2.1 := e7
        by_cases h7 : mkAt l b.2.1 [58] = true
        · rw [if_pos h7] at h5
          obtain ⟨q2, -⟩ := mkAt_lt h7
          obtain ⟨c, h8, h9⟩ := bind_some h5
          obtain ⟨c1, c2, c3, c4, c5⟩ := ih _ _ (show okQ l (.choice (b.2.1 + 1)) from q2) h8
          simp only [Option.some.injEq] at h9
          subst h9
          refine ⟨?_, by show c.2.1 ≤ _; omega, fun h0 => ?_, c4, c5⟩
          · show inR (if a.1 ≠ 0 then b.1 else c.1) = true
            split
            · exact e1
            · exact c1
          · obtain ⟨c6, c7, -⟩ := c3 h0
            have c7' : b.2.1 + 1 ≤ c.2.1 := c7
            exact ⟨c6, by show k ≤ c.2.1; omega, .inr (by show k < c.2.1; omega)⟩
        · rw [if_neg h7] at h5
          simp only [Option.some.injEq] at h5
          subst h5
          exact ⟨rfl, by show b.2.1 ≤ _; omega, fun h0 => absurd (show (1 : Int) = 0 from h0) (by decide), (by decide : (0 : Int) ≤ 1), (by decide : (1 : Int) ≤ 3)⟩
      · rw [if_neg h3] at h2
        simp only [Option.some.injEq] at h2
        subst h2
        refine ⟨g1, by omega, fun h0 => ?_, g4, g5⟩
        obtain ⟨g6, g7, g8⟩ := g3 h0
        exact ⟨g6, g7, .inr (g8.resolve_left (fun h => h))⟩
/-- How much fuel is enough. -/
def needQ (l : List Tok) : Ask → Nat
  | .one k => 4 * (l.length - k) + 1
  | .more _ _ e _ => 4 * (l.length - e) + 2
  | .marks k _ => 4 * (l.length - k) + 3
  | .choice k => 4 * (l.length - k) + 4
theorem pv_total (l : List Tok) : ∀ (d : Nat) (q : Ask), okQ l q → needQ l q ≤ d → ∃ r, pv l d q = some r := by
  intro d
  induction d with
  | zero => intro q _ h; cases q <;> simp [needQ] at h
  | succ d ih =>
    intro q hq h
    cases q with
    | one k =>
      have h' : 4 * (l.length - k) + 1 ≤ d + 1 := h
      unfold pv
      by_cases hk : k < l.length
      · rw [dif_pos hk]
        obtain ⟨a, ha⟩ := ih (.one (k + 1)) hk (by show 4 * (l.length - (k + 1)) + 1 ≤ d; omega)
        obtain ⟨b, hb⟩ := ih (.choice (k + 1)) hk (by show 4 * (l.length - (k + 1)) + 4 ≤ d; omega)
        rw [ha, hb]
        simp only [Option.bind_some]
        split
        · exact ⟨_, rfl⟩
        · split
          · exact ⟨_, rfl⟩
          · split
            · exact ⟨_, rfl⟩
            · split
              · exact ⟨_, rfl⟩
              · split <;> exact ⟨_, rfl⟩
      · rw [dif_neg hk]; exact ⟨_, rfl⟩
    | marks k rank =>
      have h' : 4 * (l.length - k) + 3 ≤ d + 1 := h
      have hk : k ≤ l.length := hq
      unfold pv
      obtain ⟨a, ha⟩ := ih (.one k) hk (by show 4 * (l.length - k) + 1 ≤ d; omega)
      rw [ha]
      simp only [Option.bind_some]
      obtain ⟨g1, g2, g3, g4, g5⟩ := pv_fine l d _ _ (show okQ l (.one k) from hk) ha
      by_cases hf : a.2.2 = 0
      · obtain ⟨g6, g7, -⟩ := g3 hf
        have g7' : k ≤ a.2.1 := g7
        exact ih _ ⟨hf, g6, g1⟩ (by show 4 * (l.length - a.2.1) + 2 ≤ d; omega)
      · obtain ⟨e, rfl⟩ : ∃ e, d = e + 1 := ⟨d - 1, by omega⟩
        unfold pv
        rw [dif_neg (fun h => hf h.1)]
        exact ⟨_, rfl⟩
    | more rank n p f =>
      obtain ⟨hf, hp, hn⟩ := hq
      have h' : 4 * (l.length - p) + 2 ≤ d + 1 := h
      unfold pv
      by_cases hk : f = 0 ∧ p < l.length
      · rw [dif_pos hk]
        by_cases h1 : rankM (l[p]'hk.2) < rank
        · rw [if_pos h1]; exact ⟨_, rfl⟩
        rw [if_neg h1]
        have hpl := hk.2
        obtain ⟨a, ha⟩ := ih (.marks (p + 1) (rankM (l[p]'hk.2) + 1)) hk.2 (by show 4 * (l.length - (p + 1)) + 3 ≤ d; omega)
        rw [ha]
        simp only [Option.bind_some]
        obtain ⟨g1, g2, g3, g4, g5⟩ := pv_fine l d _ _ (show okQ l (.marks (p + 1) _) from hk.2) ha
        by_cases h4 : a.2.2 ≠ 0
        · rw [if_pos h4]; exact ⟨_, rfl⟩
        rw [if_neg h4]
        obtain ⟨g6, g7, -⟩ := g3 (by omega)
        have g7' : p + 1 ≤ a.2.1 := g7
        obtain ⟨m1, m2, m3⟩ := applyM_in (l[p]'hk.2).text.toList n a.1
        by_cases hw : (applyM (l[p]'hk.2).text.toList n a.1).2 = 0
        · exact ih _ ⟨hw, g6, m1⟩ (by show 4 * (l.length - a.2.1) + 2 ≤ d; omega)
        · obtain ⟨e, rfl⟩ : ∃ e, d = e + 1 := ⟨d - 1, by omega⟩
          unfold pv
          rw [dif_neg (fun h => hw h.1)]
          exact ⟨_, rfl⟩
      · rw [dif_neg hk]; exact ⟨_, rfl⟩
    | choice k =>
      have h' : 4 * (l.length - k) + 4 ≤ d + 1 := h
      have hk : k ≤ l.length := hq
      unfold pv
      obtain ⟨a, ha⟩ := ih (.marks k 1) hk (by show 4 * (l.length - k) + 3 ≤ d; omega)
      rw [ha]
      simp only [Option.bind_some]
      obtain ⟨g1, g2, g3, g4, g5⟩ := pv_fine l d _ _ (show okQ l (.marks k 1) from hk) ha
      by_cases h3 : a.2.2 = 0 ∧ mkAt l a.2.1 [63] = true
      · rw [if_pos h3]
        obtain ⟨g6, g7, g8⟩ := g3 h3.1
        have g9 : k < a.2.1 := g8.resolve_left (fun h => h)
        obtain ⟨q1, -⟩ := mkAt_lt h3.2
        obtain ⟨b, hb⟩ := ih (.choice (a.2.1 + 1)) q1 (by show 4 * (l.length - (a.2.1 + 1)) + 4 ≤ d; omega)
        rw [hb]
        simp only [Option.bind_some]
        obtain ⟨e1, e2, e3, e4, e5⟩ := pv_fine l d _ _ (show okQ l (.choice (a.2.1 + 1)) from q1) hb
        by_cases h6 : b.2.2 ≠ 0
        · rw [if_pos h6]; exact ⟨_, rfl⟩
        rw [if_neg h6]
        obtain ⟨e6, e7, -⟩ := e3 (by omega)
        have e7' : a.2.1 + 1 ≤ b.2.1 := e7
        by_cases h7 : mkAt l b.2.1 [58] = true
        · rw [if_pos h7]
          obtain ⟨q2, -⟩ := mkAt_lt h7
          obtain ⟨c, hc⟩ := ih (.choice (b.2.1 + 1)) q2 (by show 4 * (l.length - (b.2.1 + 1)) + 4 ≤ d; omega)
          rw [hc]
          exact ⟨_, rfl⟩
        · rw [if_neg h7]; exact ⟨_, rfl⟩
      · rw [if_neg h3]; exact ⟨_, rfl⟩

end Go.Proofs.Ytiaiggjfepoahaa

/- A row of structs that a call makes and fills, element by element. Over any program. -/
namespace Go.Proofs.Ytiaiggjfepoahaa
open Go.RowKit

/-- Two blocks that were made one after another. -/
theorem alloc2_blk (w : World) (c0 c1 : Array Value) (t0 t1 : TypeId) :
    ((w.alloc (.cells c0 t0)).alloc (.cells c1 t1)).heap[w.heap.size]? = some (.cells c0 t0 (0, 0)) ∧
    ((w.alloc (.cells c0 t0)).alloc (.cells c1 t1)).heap[w.heap.size + 1]? = some (.cells c1 t1 (0, 0)) := by
  refine ⟨?_, ?_⟩
  · show ((w.heap.push _).push _)[_]? = _
    rw [Array.getElem?_push, if_neg (by simp), Array.getElem?_push, if_pos rfl]
  · show ((w.heap.push _).push _)[_]? = _
    rw [Array.getElem?_push, if_pos (by simp)]

/-- Cells stored one behind the other. -/
def putAll (w : World) (b : Nat) : Nat → List Value → World
  | _, [] => w
  | o, c :: cs => putAll (w.setCell ⟨b, o, none⟩ c) b (o + 1) cs
def setFrom : List Value → Nat → List Value → List Value
  | xs, _, [] => xs
  | xs, o, c :: cs => setFrom (xs.set o c) (o + 1) cs
theorem setFrom_app : ∀ (cs A Z R : List Value), Z.length = cs.length → setFrom (A ++ (Z ++ R)) A.length cs = A ++ (cs ++ R)
  | [], A, Z, R, h => by
    have : Z = [] := by simpa using h
    subst this; simp [setFrom]
  | c :: cs, A, [], R, h => by simp at h
  | c :: cs, A, z :: Z, R, h => by
    unfold setFrom
    have e : (A ++ (z :: Z ++ R)).set A.length c = (A ++ [c]) ++ (Z ++ R) := by simp
    rw [e]
    have e2 : A.length + 1 = (A ++ [c]).length := by simp
    rw [e2, setFrom_app cs (A ++ [c]) Z R (by simpa using h)]
    simp
theorem putAll_row {base e size n cap g : Nat} : ∀ (cs : List Value) (w : World) (xs : List Value) (o : Nat), w.ownsRow base e size (.slice (some ⟨g, 0, none⟩) n cap) n xs →
    (putAll w g o cs).ownsRow base e size (.slice (some ⟨g, 0, none⟩) n cap) n (setFrom xs o cs)
  | [], _, _, _, h => h
  | c :: cs, w, xs, o, h => putAll_row cs _ _ (o + 1) (h.stored o c).1
theorem putAll_kept {g : Nat} : ∀ (cs : List Value) (w : World) (o : Nat), Kept [g] w (putAll w g o cs)
  | [], w, _ => Kept.refl _ w
  | c :: cs, w, o => ((Kept.refl [g] w).setCell (p := ⟨g, o, none⟩) (by simp) c).trans (putAll_kept cs _ (o + 1))

/-- The row at block g (the first of the call's own): k elements are in it. -/
structure Filling {α : Type} (S : Shape α) (g : Nat) (e : TypeId) (l : List α) (k : Nat) (w : World) (L : List (Elem α)) (R : List Value) : Prop where
  row : w.ownsRow g e S.m (.slice (some ⟨g, 0, none⟩) l.length l.length) l.length (L.flatMap (·.cells) ++ R)
  dat : L.map (·.d) = l.take k
  len : ∀ x ∈ L, x.cells.length = S.m
  el : ∀ x ∈ L, S.R w x.cells x.d x.fp
  own : Own w (g + 1) (L.flatMap (·.fp))
section
variable {α : Type} {S : Shape α} {g e : Nat} {l : List α} {k : Nat} {w w' : World} {L : List (Elem α)} {R : List Value}
theorem Filling.count (h : Filling S g e l k w L R) (hk : k ≤ l.length) : L.length = k := by
  have := congrArg List.length h.dat
  simpa [hk] using this
theorem Filling.cells (h : Filling S g e l k w L R) (hk : k ≤ l.length) : (L.flatMap (·.cells)).length = k * S.m := by rw [flatMap_len h.len, h.count hk]
theorem Filling.rest (h : Filling S g e l k w L R) (hk : k ≤ l.length) : R.length = (l.length - k) * S.m := by
  have h1 := h.row.1
  rw [List.length_append, h.cells hk] at h1
  have : (l.length - k) * S.m = l.length * S.m - k * S.m := Nat.sub_mul _ _ _
  omega
theorem Filling.lt (h : Filling S g e l k w L R) : g < w.heap.size := (h.row.lt g rfl).2
theorem Filling.below (h : Filling S g e l k w L R) (hb : Below w.heap.size w w') : Filling S g e l k w' L R where
  row := by
    refine ⟨h.row.1, ?_⟩
    rcases h.row.2 with h0 | ⟨g', cap, cur, h1, h2, h3, h4⟩
    · exact .inl h0
    · exact .inr ⟨g', cap, cur, h1, h2, (hb.block g' (Array.getElem?_eq_some_iff.1 h3).1).trans h3, h4⟩
  dat := h.dat
  len := h.len
  el := fun x hx => S.below (h.el x hx) hb
  own := h.own.grow hb
/-- The cells of the next element: there, not frozen. -/
theorem Filling.cell (h : Filling S g e l k w L R) (hk : k < l.length) {j : Nat} (hj : j < S.m) : ∃ u, w.cell? ⟨g, k * S.m + j, none⟩ = some u := by
  have h1 : (k + 1) * S.m ≤ l.length * S.m := Nat.mul_le_mul_right _ hk
  rw [Nat.succ_mul] at h1
  rw [h.row.cellAt (k * S.m + j) (by omega), List.getElem?_append_right (by rw [h.cells (by omega)]; omega), h.cells (by omega)]
  have h2 := h.rest (by omega)
  have h3 : (l.length - k) * S.m = l.length * S.m - k * S.m := Nat.sub_mul _ _ _
  exact ⟨R[k * S.m + j - k * S.m]'(by omega), List.getElem?_eq_getElem _⟩
theorem Filling.frozen (h : Filling S g e l k w L R) (o : Nat) : w.frozen? ⟨g, o, none⟩ = false := h.row.frozenAt o
theorem Filling.next {cs : List Value} {fp : List Nat} {w0 : World} (h0 : Filling S g e l k w0 L R) (hk : k < l.length) (hb : Below w0.heap.size w0 w) (hlen : cs.length = S.m) (hR : S.R w cs l[k] fp) (ho : Own w w0.heap.size fp) :
    ∃ R', Filling S g e l (k + 1) (putAll w g (k * S.m) cs) (L ++ [⟨cs, l[k], fp⟩]) R' := by
  have h := h0.below hb
  have hg0 := h0.lt
  have hap : ∀ x ∈ L, ∀ b ∈ x.fp, b ∈ L.flatMap (·.fp) := fun x hx b hb' => List.mem_flatMap.2 ⟨x, hx, hb'⟩
  have hn : ∀ b ∈ L.flatMap (·.fp), b ∉ [g] := fun b hb' => by have := (h.own.2 b hb').1; simp; omega
  have hn2 : ∀ b ∈ fp, b ∉ [g] := fun b hb' => by have := (ho.2 b hb').1; simp; omega
  have hK := putAll_kept (g := g) cs w (k * S.m)
  have hr := h.rest (by omega)
  have hsp : (l.length - k) * S.m = S.m + (l.length - (k + 1)) * S.m := by rw [show l.length - k = (l.length - (k + 1)) + 1 by omega, Nat.succ_mul]; omega
  refine ⟨R.drop S.m, ⟨?_, ?_, fun x hx => ?_, fun x hx => ?_, ?_⟩⟩
  · have := putAll_row cs w _ (k * S.m) h.row
    have e1 : L.flatMap (·.cells) ++ R = L.flatMap (·.cells) ++ (R.take S.m ++ R.drop S.m) := by rw [List.take_append_drop]
    rw [e1, ← h.cells (by omega), setFrom_app cs _ (R.take S.m) (R.drop S.m) (by rw [List.length_take, hlen]; omega)] at this
    rw [List.flatMap_append, List.flatMap_cons, List.flatMap_nil, List.append_nil, List.append_assoc, ← h.cells (by omega)]
    exact this
  · rw [List.map_append, h.dat, List.take_succ_eq_append_getElem hk]; rfl
  · rcases List.mem_append.1 hx with hx | hx
    · exact h.len x hx
    · obtain rfl := List.mem_singleton.1 hx; exact hlen
  · rcases List.mem_append.1 hx with hx | hx
    · exact S.kept (h.el x hx) (fun b hb' => hn b (hap x hx b hb')) hK
    · obtain rfl := List.mem_singleton.1 hx
      exact S.kept hR hn2 hK
  · rw [List.flatMap_append, List.flatMap_cons, List.flatMap_nil, List.append_nil]
    refine Own.app (h.own.kept hn hK) ((Own.lower ho (by omega)).kept hn2 hK) fun b hb1 hb2 => ?_
    have h1 := (ho.2 b hb2).1
    have h2 := h0.own.lt b hb1
    omega
theorem Filling.done (h : Filling S g e l k w L R) (hk : l.length = k) : ∃ fp, (sSlice S).R w [.slice (some ⟨g, 0, none⟩) l.length l.length] l fp ∧ Own w g fp := by
  have hc := h.count (by omega)
  have hr : R = [] := by
    have := h.rest (by omega)
    rw [hk, Nat.sub_self, Nat.zero_mul] at this
    exact List.length_eq_zero_iff.1 this
  have hd := h.dat
  rw [List.take_of_length_le (by omega)] at hd
  have hrow := h.row
  rw [hr, List.append_nil] at hrow
  have hL : L.length = l.length := by omega
  rw [← hL] at hrow
  obtain ⟨fp, h1, h2, h3⟩ := slice_of_row hrow (fun x hx => ⟨h.len x hx, h.el x hx⟩)
  rw [hd, hL] at h1
  exact ⟨fp, h1, h3 (Own.lower h.own (by omega)) (fun g' hg' hx => by
    simp only [Value.ownBlock, Option.some.injEq] at hg'
    have := (h.own.2 g' hx).1
    omega)⟩
end
end Go.Proofs.Ytiaiggjfepoahaa

/- What the made texts of structs lean on. -/
namespace Go.Proofs.Ytiaiggjfepoahaa
open Go.RowKit
end Go.Proofs.Ytiaiggjfepoahaa

/- Tokens and the law's own helpers. -/
namespace Go.Proofs.Ytiaiggjfepoahaa
open Go.RowKit
end Go.Proofs.Ytiaiggjfepoahaa

/- Tokens as arguments of a law: their size, their copy. -/
namespace Go.Proofs.Ytiaiggjfepoahaa
open Go.RowKit
section
variable {H : Type} {enc : TypeId × Value → H} {w : World} {base : Nat} {spare : Nat → Bool} {held : Bool}
end
end Go.Proofs.Ytiaiggjfepoahaa

/- Slices of tokens as arguments of a law: their size, their copy. -/
namespace Go.Proofs.Ytiaiggjfepoahaa
open Go.RowKit
end Go.Proofs.Ytiaiggjfepoahaa

/- Printing tokens: no program. -/
namespace Go.Proofs.Ytiaiggjfepoahaa
open Go.RowKit

theorem ext_get (s : ByteArray) (i j k : Nat) (h : k < (s.extract i j).size) : (s.extract i j)[k] = s[i + k]'(by rw [ByteArray.size_extract] at h; omega) := by
  rw [ByteArray.getElem_extract]

/-- A token's kind is that of its first byte. -/
def Headed (t : Tok) : Prop := ∃ h : 0 < t.text.size, t.kind = cutKind t.text[0]
theorem toks_head (s : ByteArray) : ∀ (k : Nat) (sp : Bool) (n : Nat) (l : List Tok), toks s k sp n = some l → ∀ t ∈ l, Headed t := by
  intro k sp n
  induction k, sp, n using toks.induct (s := s) with
  | case1 k sp n hk h32 ih =>
    intro l h
    rw [toks, dif_pos hk, if_pos h32] at h
    exact ih l h
  | case2 k sp n hk h32 hb =>
    intro l h
    rw [toks, dif_pos hk, if_neg h32, if_pos hb] at h
    exact absurd h (by simp)
  | case3 k sp n hk h32 hb ih =>
    intro l h t ht
    rw [toks, dif_pos hk, if_neg h32, if_neg hb] at h
    have hr := cutEnd_room (s := s) (k := k) (by omega)
    rw [Option.map_eq_some_iff] at h
    obtain ⟨l', h1, rfl⟩ := h
    rcases List.mem_cons.1 ht with rfl | ht
    · have hz : 0 < (s.extract k (cutEnd s k).toNat).size := by rw [ByteArray.size_extract]; omega
      refine ⟨hz, ?_⟩
      show cutKind s[k] = cutKind (s.extract k (cutEnd s k).toNat)[0]
      rw [ext_get]; rfl
    · exact ih l' h1 t ht
  | case4 k sp n hk =>
    intro l h
    rw [toks, dif_neg hk] at h
    simp only [Option.some.injEq] at h
    subst h; simp
theorem tokRes_head (s : ByteArray) : ∀ t ∈ (tokRes s).1, Headed t := by
  rcases hr : tokRes s with ⟨l, ok⟩
  cases ok
  · obtain rfl := tokRes_false hr
    simp
  · exact toks_head s 0 false 0 l (tokRes_true hr).1
theorem oneTok_res {x : ByteArray} {k : Int} (h : oneTok x k = true) : ∃ t, tokRes x = ([t], true) ∧ t.kind = k ∧ t.text = x := by
  rcases one_ways x k with ⟨_, HG⟩ | ⟨l, _, _, HG⟩ | ⟨t', _, _, HG⟩ | ⟨t', _, _, _, HG⟩ | ⟨t', hr, hk, hx, _, _⟩
  · exact absurd (HG.out.symm.trans h) (by simp)
  · exact absurd (HG.out.symm.trans h) (by simp)
  · exact absurd (HG.out.symm.trans h) (by simp)
  · exact absurd (HG.out.symm.trans h) (by simp)
  · exact ⟨t', hr, hk, hx⟩
/-- What is known of a valid token. -/
theorem tokOk_facts {t : Tok} (h : tokOk t = true) : Headed t ∧ t.text.size ≤ 200 := by
  unfold tokOk at h
  rw [Bool.and_eq_true] at h
  obtain ⟨u, hr, hk, hx⟩ := oneTok_res h.1
  have h1 := tokRes_head t.text u (by rw [hr]; simp)
  have h2 := lineOk_size (tokRes_true hr).2
  refine ⟨?_, h2⟩
  obtain ⟨a, b⟩ := h1
  obtain ⟨k, x, s, hd⟩ := t
  subst hx
  exact ⟨a, (show k = u.kind from hk.symm).trans b⟩

theorem toksOk_facts {l : List Tok} (h : toksOk l = true) : l.length ≤ 60 ∧ ∀ k, (hk : k < l.length) → tokOk l[k] = true := by
  unfold toksOk at h
  rw [Bool.and_eq_true, decide_eq_true_eq, List.all_eq_true] at h
  exact ⟨h.1, fun k hk => h.2 _ (List.getElem_mem hk)⟩
end Go.Proofs.Ytiaiggjfepoahaa

/- How many tokens there are: no program. -/
namespace Go.Proofs.Ytiaiggjfepoahaa
open Go.RowKit

theorem toks_all (s : ByteArray) : ∀ (k : Nat) (sp : Bool) (n : Nat) (l : List Tok), toks s k sp n = some l → n ≤ 60 → n + l.length ≤ 60 ∧ ∀ t ∈ l, t.hidden = [] := by
  intro k sp n
  induction k, sp, n using toks.induct (s := s) with
  | case1 k sp n hk h32 ih =>
    intro l h hn
    rw [toks, dif_pos hk, if_pos h32] at h
    exact ih l h hn
  | case2 k sp n hk h32 hb =>
    intro l h hn
    rw [toks, dif_pos hk, if_neg h32, if_pos hb] at h
    exact absurd h (by simp)
  | case3 k sp n hk h32 hb ih =>
    intro l h hn
    rw [toks, dif_pos hk, if_neg h32, if_neg hb] at h
    rw [Option.map_eq_some_iff] at h
    obtain ⟨l', h1, rfl⟩ := h
    obtain ⟨a, b⟩ := ih l' h1 (by omega)
    refine ⟨by simp only [List.length_cons]; omega, fun t ht => ?_⟩
    rcases List.mem_cons.1 ht with rfl | ht
    · rfl
    · exact b t ht
  | case4 k sp n hk =>
    intro l h hn
    rw [toks, dif_neg hk] at h
    simp only [Option.some.injEq] at h
    subst h; simp; exact hn
theorem tokRes_all (s : ByteArray) : (tokRes s).1.length ≤ 60 ∧ ∀ t ∈ (tokRes s).1, t.hidden = [] := by
  rcases hr : tokRes s with ⟨l, ok⟩
  cases ok
  · obtain rfl := tokRes_false hr
    simp
  · obtain ⟨h1, _⟩ := tokRes_true hr
    have := toks_all s 0 false 0 l h1 (by omega)
    exact ⟨by simpa using this.1, this.2⟩
end Go.Proofs.Ytiaiggjfepoahaa
