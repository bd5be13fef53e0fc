/- Tokens of a line: no program. -/
import Derived.Test.YtigbaeokccknaaaStrip0
namespace Go.Proofs.Ytigbaeokccknaaa
open Go.RowKit

structure Tok where
  kind : Int
  text : ByteArray
  spaced : Bool
  hidden : List ByteArray
theorem Tok.ext' {a b : Tok} (h1 : a.kind = b.kind) (h2 : a.text = b.text) (h3 : a.spaced = b.spaced) (h4 : a.hidden = b.hidden) : a = b := by
  cases a; cases b; simp_all
instance : DecidableEq Tok := fun a b =>
  if h1 : a.kind = b.kind then if h2 : a.text = b.text then if h3 : a.spaced = b.spaced then if h4 : a.hidden = b.hidden then isTrue (Tok.ext' h1 h2 h3 h4)
    else isFalse fun h => h4 (by rw [h]) else isFalse fun h => h3 (by rw [h]) else isFalse fun h => h2 (by rw [h]) else isFalse fun h => h1 (by rw [h])

def isLet (c : UInt8) : Bool := decide (97 ≤ c.toNat ∧ c.toNat ≤ 122 ∨ 65 ≤ c.toNat ∧ c.toNat ≤ 90 ∨ c.toNat = 95)
def isDig (c : UInt8) : Bool := decide (48 ≤ c.toNat ∧ c.toNat ≤ 57)
def isWord (c : UInt8) : Bool := isLet c || isDig c
theorem isLet_iff (c : UInt8) : isLet c = true ↔ (97 ≤ c.toNat ∧ c.toNat ≤ 122 ∨ 65 ≤ c.toNat ∧ c.toNat ≤ 90 ∨ c.toNat = 95) := by unfold isLet; exact decide_eq_true_iff
theorem isDig_iff (c : UInt8) : isDig c = true ↔ (48 ≤ c.toNat ∧ c.toNat ≤ 57) := by unfold isDig; exact decide_eq_true_iff
theorem isWord_iff (c : UInt8) : isWord c = true ↔ ((97 ≤ c.toNat ∧ c.toNat ≤ 122 ∨ 65 ≤ c.toNat ∧ c.toNat ≤ 90 ∨ c.toNat = 95) ∨ (48 ≤ c.toNat ∧ c.toNat ≤ 57)) := by
  unfold isWord; rw [Bool.or_eq_true, isLet_iff, isDig_iff]
theorem b_true {b : Bool} {p : Prop} (h : b = true ↔ p) (hp : p) : true = b := (h.2 hp).symm
theorem b_false {b : Bool} {p : Prop} (h : b = true ↔ p) (hp : ¬ p) : false = b := by
  cases b
  · rfl
  · exact absurd (h.1 rfl) hp
/-- The nine ways of a byte. -/
theorem nine (c : UInt8) : 123 ≤ (c.toNat : Int) ∨ (97 ≤ (c.toNat : Int) ∧ (c.toNat : Int) ≤ 122) ∨ (c.toNat : Int) = 96 ∨ (c.toNat : Int) = 95 ∨ (91 ≤ (c.toNat : Int) ∧ (c.toNat : Int) ≤ 94) ∨ (65 ≤ (c.toNat : Int) ∧ (c.toNat : Int) ≤ 90) ∨ (58 ≤ (c.toNat : Int) ∧ (c.toNat : Int) ≤ 64) ∨ (48 ≤ (c.toNat : Int) ∧ (c.toNat : Int) ≤ 57) ∨ (c.toNat : Int) ≤ 47 := by omega

def wEnd (s : ByteArray) (k : Nat) : Nat := if h : k < s.size then (if isWord s[k] = true then wEnd s (k + 1) else k) else k
termination_by s.size - k
theorem wEnd_in {s : ByteArray} {k : Nat} (h : k < s.size) (hc : isWord s[k] = true) : wEnd s k = wEnd s (k + 1) := by rw [wEnd, dif_pos h, if_pos hc]
theorem wEnd_stop {s : ByteArray} {k : Nat} (h : k < s.size) (hc : isWord s[k] = false) : wEnd s k = k := by rw [wEnd, dif_pos h, if_neg (by simp [hc])]
theorem wEnd_out {s : ByteArray} {k : Nat} (h : s.size ≤ k) : wEnd s k = k := by rw [wEnd, dif_neg (by omega)]
theorem wEnd_bounds (s : ByteArray) (k : Nat) : k ≤ wEnd s k ∧ (k ≤ s.size → wEnd s k ≤ s.size) := by
  induction k using wEnd.induct (s := s) with
  | case1 k h hc ih => rw [wEnd_in h hc]; exact ⟨by omega, fun _ => ih.2 (by omega)⟩
  | case2 k h hc => rw [wEnd_stop h (by simpa using hc)]; omega
  | case3 k h => rw [wEnd_out (by omega)]; omega

/-- The place behind the quote that ends a text whose inside begins at k. -/
def tClose (s : ByteArray) (k : Nat) : Option Nat :=
  if h : k < s.size then (if s[k].toNat = 34 then some (k + 1) else if s[k].toNat = 92 then tClose s (k + 2) else tClose s (k + 1)) else none
termination_by s.size - k
theorem tClose_quote {s : ByteArray} {k : Nat} (h : k < s.size) (hc : s[k].toNat = 34) : tClose s k = some (k + 1) := by rw [tClose, dif_pos h, if_pos hc]
theorem tClose_back {s : ByteArray} {k : Nat} (h : k < s.size) (hc : s[k].toNat = 92) : tClose s k = tClose s (k + 2) := by rw [tClose, dif_pos h, if_neg (by omega), if_pos hc]
theorem tClose_else {s : ByteArray} {k : Nat} (h : k < s.size) (h1 : ¬ s[k].toNat = 34) (h2 : ¬ s[k].toNat = 92) : tClose s k = tClose s (k + 1) := by rw [tClose, dif_pos h, if_neg h1, if_neg h2]
theorem tClose_out {s : ByteArray} {k : Nat} (h : s.size ≤ k) : tClose s k = none := by rw [tClose, dif_neg (by omega)]
theorem tClose_some {s : ByteArray} {k e : Nat} (h : tClose s k = some e) : k + 1 ≤ e ∧ e ≤ s.size ∧ tEnd s k = e ∧ ∃ hh : e - 1 < s.size, s[e - 1].toNat = 34 := by
  induction k using tClose.induct (s := s) with
  | case1 k hk hc =>
    rw [tClose_quote hk hc, Option.some.injEq] at h
    subst h
    exact ⟨by omega, by omega, tEnd_quote hk hc, by simp; omega, hc⟩
  | case2 k hk h1 hc ih =>
    rw [tClose_back hk hc] at h
    obtain ⟨a, b, c, d⟩ := ih h
    exact ⟨by omega, b, by rw [tEnd_back hk hc, c], d⟩
  | case3 k hk h1 h2 ih =>
    rw [tClose_else hk h1 h2] at h
    obtain ⟨a, b, c, d⟩ := ih h
    exact ⟨by omega, b, by rw [tEnd_else hk h1 h2, c], d⟩
  | case4 k hk => rw [tClose_out (by omega)] at h; exact absurd h (by simp)
theorem tClose_none {s : ByteArray} {k : Nat} (h : tClose s k = none) : tEnd s k = s.size := by
  induction k using tClose.induct (s := s) with
  | case1 k hk hc => rw [tClose_quote hk hc] at h; simp at h
  | case2 k hk h1 hc ih => rw [tClose_back hk hc] at h; rw [tEnd_back hk hc, ih h]
  | case3 k hk h1 h2 ih => rw [tClose_else hk h1 h2] at h; rw [tEnd_else hk h1 h2, ih h]
  | case4 k hk => exact tEnd_out (by omega)

/-- The text with a space behind it, as the program closes texts. -/
def plus (s : ByteArray) : ByteArray := s ++ ⟨#[32]⟩
theorem plus_size (s : ByteArray) : (plus s).size = s.size + 1 := by unfold plus; rw [ByteArray.size_append]; rfl
theorem plus_at (s : ByteArray) (k : Nat) (h : k < s.size) : (plus s)[k]'(by rw [plus_size]; omega) = s[k] := by
  unfold plus; rw [ByteArray.getElem_append_left h]
theorem plus_end (s : ByteArray) : (plus s)[s.size]'(by rw [plus_size]; omega) = 32 := by
  unfold plus; rw [ByteArray.getElem_append_right (Nat.le_refl _)]; simp; rfl
theorem tEnd_plus (s : ByteArray) (k : Nat) (hk : k ≤ s.size + 1) : tEnd (plus s) k = match tClose s k with | some e => e | none => s.size + 1 := by
  induction k using tClose.induct (s := s) with
  | case1 k h hc =>
    rw [tClose_quote h hc, tEnd_quote (by rw [plus_size]; omega) (by rw [plus_at s k h]; exact hc)]
  | case2 k h h1 hc ih =>
    rw [tClose_back h hc, tEnd_back (by rw [plus_size]; omega) (by rw [plus_at s k h]; exact hc)]
    exact ih (by omega)
  | case3 k h h1 h2 ih =>
    rw [tClose_else h h1 h2, tEnd_else (by rw [plus_size]; omega) (by rw [plus_at s k h]; exact h1) (by rw [plus_at s k h]; exact h2)]
    exact ih (by omega)
  | case4 k h =>
    rw [tClose_out (by omega)]
    by_cases e : k = s.size
    · subst e
      rw [tEnd_else (by rw [plus_size]; omega) (by rw [plus_end]; decide) (by rw [plus_end]; decide), tEnd_out (by rw [plus_size]; omega), plus_size]
    · rw [tEnd_out (by rw [plus_size]; omega), plus_size]

/-- Where the model's walk over a text ends: it comes to the last byte exactly if the text is closed. -/
def bk (s : ByteArray) (k e : Nat) : Nat := if h : k < e ∧ k < s.size then (if s[k].toNat = 92 then bk s (k + 2) e else bk s (k + 1) e) else k
termination_by e - k
theorem bk_back {s : ByteArray} {k e : Nat} (h : k < e) (h' : k < s.size) (hc : s[k].toNat = 92) : bk s k e = bk s (k + 2) e := by rw [bk, dif_pos ⟨h, h'⟩, if_pos hc]
theorem bk_else {s : ByteArray} {k e : Nat} (h : k < e) (h' : k < s.size) (hc : ¬ s[k].toNat = 92) : bk s k e = bk s (k + 1) e := by rw [bk, dif_pos ⟨h, h'⟩, if_neg hc]
theorem bk_out {s : ByteArray} {k e : Nat} (h : e ≤ k) : bk s k e = k := by rw [bk, dif_neg (by omega)]
theorem bk_closed {s : ByteArray} {k e : Nat} (h : tClose s k = some e) : bk s k (e - 1) = e - 1 := by
  induction k using tClose.induct (s := s) with
  | case1 k hk hc =>
    rw [tClose_quote hk hc, Option.some.injEq] at h
    subst h
    rw [bk_out (by omega)]; omega
  | case2 k hk h1 hc ih =>
    rw [tClose_back hk hc] at h
    have := tClose_some h
    rw [bk_back (by omega) hk hc]
    exact ih h
  | case3 k hk h1 h2 ih =>
    rw [tClose_else hk h1 h2] at h
    have := tClose_some h
    rw [bk_else (by omega) hk h2]
    exact ih h
  | case4 k hk => rw [tClose_out (by omega)] at h; exact absurd h (by simp)
theorem bk_open {s : ByteArray} {k : Nat} (h : tClose s k = none) (hk : k < s.size) (hq : s[s.size - 1].toNat = 34) : bk s k (s.size - 1) ≠ s.size - 1 := by
  induction k using tClose.induct (s := s) with
  | case1 k hk hc => rw [tClose_quote hk hc] at h; simp at h
  | case2 k hk' h1 hc ih =>
    rw [tClose_back hk' hc] at h
    have hn : k ≠ s.size - 1 := by rintro rfl; omega
    rw [bk_back (by omega) hk' hc]
    by_cases h2 : k + 2 < s.size
    · exact ih h h2 hq
    · rw [bk_out (by omega)]; omega
  | case3 k hk' h1 h2 ih =>
    rw [tClose_else hk' h1 h2] at h
    have hn : k ≠ s.size - 1 := by rintro rfl; omega
    rw [bk_else (by omega) hk' h2]
    exact ih h (by omega) hq
  | case4 k hk' => omega

def twoAt (s : ByteArray) (k : Nat) : Bool := two s k 61 61 || two s k 33 61 || two s k 60 61 || two s k 62 61 || two s k 38 38 || two s k 124 124 || two s k 35 35
def marks1 : List UInt8 := [43, 45, 42, 47, 37, 60, 62, 61, 33, 38, 124, 40, 41, 44, 35, 59, 63, 58, 123, 125, 91, 93, 46]
def mLen (s : ByteArray) (k : Nat) : Nat := if twoAt s k = true then 2 else if h : k < s.size then (if s[k] ∈ marks1 then 1 else 0) else 0
theorem twoAt_room {s : ByteArray} {k : Nat} (h : twoAt s k = true) : k + 1 < s.size := by
  unfold twoAt at h
  simp only [Bool.or_eq_true] at h
  rcases h with (((((h | h) | h) | h) | h) | h) | h <;> exact two_room h
theorem mLen_room {s : ByteArray} {k : Nat} (hk : k < s.size) : k + mLen s k ≤ s.size ∧ mLen s k ≤ 2 := by
  unfold mLen
  split
  · rename_i h; have := twoAt_room h; omega
  · split <;> (try split) <;> omega

def wordTo (s : ByteArray) (k : Nat) : Int := if 12 < wEnd s k - k then -1 else (wEnd s k : Int)
theorem wordTo_long {s : ByteArray} {k0 k : Nat} (h : k = wEnd s k0) (h1 : 12 < (k : Int) - (k0 : Int)) : (-1 : Int) = wordTo s k0 := by unfold wordTo; rw [← h, if_pos (by omega)]
theorem wordTo_short {s : ByteArray} {k0 k : Nat} (h : k = wEnd s k0) (h1 : ¬ 12 < (k : Int) - (k0 : Int)) : (k : Int) = wordTo s k0 := by unfold wordTo; rw [← h, if_neg (by omega)]
def closeTo (s : ByteArray) (k : Nat) : Int := match tClose s k with | some e => (e : Int) | none => -1
theorem closeTo_some {s : ByteArray} {k e : Nat} (h : tClose s k = some e) : closeTo s k = e := by unfold closeTo; rw [h]
theorem closeTo_none {s : ByteArray} {k : Nat} (h : tClose s k = none) : closeTo s k = -1 := by unfold closeTo; rw [h]
def markTo (s : ByteArray) (k : Nat) : Int := if mLen s k = 0 then -1 else ((k + mLen s k : Nat) : Int)
def cutKind (c : UInt8) : Int := if isDig c = true then 2 else if isLet c = true then 1 else if c.toNat = 34 then 3 else 4
def cutEnd (s : ByteArray) (k : Nat) : Int :=
  if h : k < s.size then
    if isWord s[k] = true then wordTo s k
    else if s[k].toNat = 34 then closeTo s (k + 1)
    else markTo s k
  else -1
theorem cutEnd_word {s : ByteArray} {k : Nat} (h : k < s.size) (hw : isWord s[k] = true) : cutEnd s k = if 12 < wEnd s k - k then -1 else (wEnd s k : Int) := by rw [cutEnd, dif_pos h, if_pos hw]; rfl
theorem cutEnd_text {s : ByteArray} {k : Nat} (h : k < s.size) (hw : isWord s[k] = false) (hq : s[k].toNat = 34) : cutEnd s k = match tClose s (k + 1) with | some e => (e : Int) | none => -1 := by rw [cutEnd, dif_pos h, if_neg (by simp [hw]), if_pos hq]; rfl
theorem cutEnd_mark {s : ByteArray} {k : Nat} (h : k < s.size) (hw : isWord s[k] = false) (hq : ¬ s[k].toNat = 34) : cutEnd s k = if mLen s k = 0 then -1 else ((k + mLen s k : Nat) : Int) := by rw [cutEnd, dif_pos h, if_neg (by simp [hw]), if_neg hq]; rfl
theorem cutEnd_room {s : ByteArray} {k : Nat} (h : 0 ≤ cutEnd s k) : (k : Int) + 1 ≤ cutEnd s k ∧ cutEnd s k ≤ s.size ∧ k < s.size := by
  by_cases hk : k < s.size
  · refine ⟨?_, ?_, hk⟩ <;>
    · cases hw : isWord s[k]
      · by_cases hq : s[k].toNat = 34
        · rw [cutEnd_text hk hw hq] at h ⊢
          cases hc : tClose s (k + 1) with
          | none => rw [hc] at h; exact absurd h (by decide)
          | some e => have := tClose_some hc; show _ ≤ _; simp only; omega
        · rw [cutEnd_mark hk hw hq] at h ⊢
          have := mLen_room hk
          split at h
          · omega
          · rename_i h0; rw [if_neg h0]; omega
      · rw [cutEnd_word hk hw] at h ⊢
        have h1 := wEnd_bounds s (k + 1)
        rw [← wEnd_in hk hw] at h1
        have := h1.2 (by omega)
        split at h
        · omega
        · rename_i h0; rw [if_neg h0]; omega
  · rw [cutEnd, dif_neg hk] at h; omega
theorem cutEnd_ge (s : ByteArray) (k : Nat) : cutEnd s k < 0 ∨ ∃ e : Nat, cutEnd s k = e ∧ k < e ∧ e ≤ s.size := by
  by_cases h : cutEnd s k < 0
  · exact .inl h
  · have := cutEnd_room (s := s) (k := k) (by omega)
    exact .inr ⟨(cutEnd s k).toNat, by omega, by omega, by omega⟩

/-- What the model's cut answers. -/
def sCut (s : ByteArray) (k : Nat) : Int × Int :=
  if h : k < s.size then
    if isWord s[k] = true then (if isLet s[k] = true then 1 else 2, wEnd s (k + 1))
    else if s[k].toNat = 34 then (match tClose s (k + 1) with | some e => (3, (e : Int)) | none => (0, k))
    else (4, (k + mLen s k : Nat))
  else (0, k)
def SBad (k : Nat) (c : Int × Int) : Prop := c.2 = k ∨ c.1 = 0 ∨ (c.1 = 1 ∨ c.1 = 2) ∧ 12 < c.2 - k
theorem let_dig {c : UInt8} (h : isLet c = true) : isDig c = false := by
  rw [isLet_iff] at h
  cases hd : isDig c
  · rfl
  · rw [isDig_iff] at hd; omega
theorem sCut_word {s : ByteArray} {k : Nat} (h : k < s.size) (hw : isWord s[k] = true) : sCut s k = (if isLet s[k] = true then 1 else 2, (wEnd s (k + 1) : Int)) := by rw [sCut, dif_pos h, if_pos hw]
theorem sCut_closed {s : ByteArray} {k e : Nat} (h : k < s.size) (hw : isWord s[k] = false) (hq : s[k].toNat = 34) (hc : tClose s (k + 1) = some e) : sCut s k = (3, (e : Int)) := by rw [sCut, dif_pos h, if_neg (by simp [hw]), if_pos hq, hc]
theorem sCut_open {s : ByteArray} {k : Nat} (h : k < s.size) (hw : isWord s[k] = false) (hq : s[k].toNat = 34) (hc : tClose s (k + 1) = none) : sCut s k = (0, (k : Int)) := by rw [sCut, dif_pos h, if_neg (by simp [hw]), if_pos hq, hc]
theorem sCut_mark {s : ByteArray} {k : Nat} (h : k < s.size) (hw : isWord s[k] = false) (hq : ¬ s[k].toNat = 34) : sCut s k = (4, ((k + mLen s k : Nat) : Int)) := by rw [sCut, dif_pos h, if_neg (by simp [hw]), if_neg hq]
theorem sCut_bad {s : ByteArray} {k : Nat} (hk : k < s.size) (h : cutEnd s k < 0) : SBad k (sCut s k) := by
  unfold SBad
  cases hw : isWord s[k]
  · by_cases hq : s[k].toNat = 34
    · rw [cutEnd_text hk hw hq] at h
      cases hc : tClose s (k + 1) with
      | none => rw [sCut_open hk hw hq hc]; exact .inl rfl
      | some e => rw [hc] at h; simp only at h; omega
    · rw [cutEnd_mark hk hw hq] at h
      rw [sCut_mark hk hw hq]
      split at h
      · rename_i h0; left; simp only; omega
      · omega
  · rw [cutEnd_word hk hw] at h
    rw [sCut_word hk hw, ← wEnd_in hk hw]
    split at h
    · rename_i h0
      refine .inr (.inr ⟨?_, by simp only; omega⟩)
      simp only; split <;> simp
    · omega
theorem sCut_good {s : ByteArray} {k : Nat} (hk : k < s.size) (h : 0 ≤ cutEnd s k) : ¬ SBad k (sCut s k) ∧ sCut s k = (cutKind s[k], cutEnd s k) := by
  have hr := cutEnd_room h
  unfold SBad
  cases hw : isWord s[k]
  · have hd : isDig s[k] = false := by unfold isWord at hw; simp only [Bool.or_eq_false_iff] at hw; exact hw.2
    have hl : isLet s[k] = false := by unfold isWord at hw; simp only [Bool.or_eq_false_iff] at hw; exact hw.1
    have hkind : cutKind s[k] = if s[k].toNat = 34 then 3 else 4 := by unfold cutKind; rw [if_neg (by simp [hd]), if_neg (by simp [hl])]
    by_cases hq : s[k].toNat = 34
    · rw [hkind, if_pos hq]
      rw [cutEnd_text hk hw hq] at h hr ⊢
      cases hc : tClose s (k + 1) with
      | none => rw [hc] at h; exact absurd h (by decide)
      | some e =>
        have := tClose_some hc
        rw [sCut_closed hk hw hq hc]
        refine ⟨?_, rfl⟩
        simp only; omega
    · rw [hkind, if_neg hq]
      rw [cutEnd_mark hk hw hq] at h hr ⊢
      rw [sCut_mark hk hw hq]
      split at h
      · omega
      · rename_i h0
        rw [if_neg h0] at hr ⊢
        refine ⟨?_, rfl⟩
        simp only; omega
  · have hkind : cutKind s[k] = if isLet s[k] = true then 1 else 2 := by
      unfold cutKind
      cases hl : isLet s[k]
      · have hd : isDig s[k] = true := by unfold isWord at hw; rw [hl] at hw; simpa using hw
        rw [if_pos hd]; rfl
      · rw [if_neg (by simp [let_dig hl]), if_pos rfl, if_pos rfl]
    rw [hkind]
    rw [cutEnd_word hk hw] at h hr ⊢
    rw [sCut_word hk hw, ← wEnd_in hk hw]
    split at h
    · omega
    · rename_i h0
      rw [if_neg h0] at hr ⊢
      refine ⟨?_, rfl⟩
      simp only; split <;> omega

def toks (s : ByteArray) (k : Nat) (sp : Bool) (n : Nat) : Option (List Tok) :=
  if h : k < s.size then
    if s[k].toNat = 32 then toks s (k + 1) true n
    else if cutEnd s k < 0 ∨ n = 60 then none
    else (toks s (max (k + 1) (cutEnd s k).toNat) false (n + 1)).map (⟨cutKind s[k], s.extract k (cutEnd s k).toNat, sp, []⟩ :: ·)
  else some []
termination_by s.size - k
/-- What has come out when the place k is reached. -/
def AtT (s : ByteArray) (k : Nat) (sp : Bool) (out : List Tok) : Prop := (toks s k sp out.length).map (out ++ ·) = toks s 0 false 0 ∧ out.length ≤ 60
theorem AtT.zero (s : ByteArray) : AtT s 0 false [] := ⟨by simp, by simp⟩
theorem AtT.space {s : ByteArray} {k : Nat} {sp : Bool} {out : List Tok} (h : AtT s k sp out) (hk : k < s.size) (hc : s[k].toNat = 32) : AtT s (k + 1) true out :=
  ⟨by rw [← h.1, toks.eq_def s k, dif_pos hk, if_pos hc], h.2⟩
theorem AtT.bad {s : ByteArray} {k : Nat} {sp : Bool} {out : List Tok} (h : AtT s k sp out) (hk : k < s.size) (hc : ¬ s[k].toNat = 32) (hb : cutEnd s k < 0 ∨ out.length = 60) : toks s 0 false 0 = none := by
  rw [← h.1, toks, dif_pos hk, if_neg hc, if_pos hb]; rfl
theorem AtT.tok {s : ByteArray} {k e : Nat} {sp : Bool} {out : List Tok} (h : AtT s k sp out) (hk : k < s.size) (hc : ¬ s[k].toNat = 32) (he : cutEnd s k = e) (hn : out.length ≠ 60) : AtT s e false (out ++ [⟨cutKind s[k], s.extract k e, sp, []⟩]) := by
  have hr := cutEnd_room (s := s) (k := k) (by omega)
  refine ⟨?_, by have := h.2; simp; omega⟩
  rw [← h.1, toks.eq_def s k, dif_pos hk, if_neg hc, if_neg (by omega), he, Int.toNat_natCast, Nat.max_eq_right (by omega), Option.map_map]
  rw [List.length_append]
  congr 1
  funext x
  simp
theorem AtT.done {s : ByteArray} {k : Nat} {sp : Bool} {out : List Tok} (h : AtT s k sp out) (hk : s.size ≤ k) : toks s 0 false 0 = some out := by
  rw [← h.1, toks, dif_neg (by omega)]; simp

def tokRes (s : ByteArray) : List Tok × Bool := if lineOk s = true then (match toks s 0 false 0 with | some l => (l, true) | none => ([], false)) else ([], false)
theorem tokRes_bad {s : ByteArray} (h : lineOk s = false) : tokRes s = ([], false) := by unfold tokRes; rw [if_neg (by simp [h])]
theorem tokRes_none {s : ByteArray} (h : toks s 0 false 0 = none) : tokRes s = ([], false) := by unfold tokRes; rw [h]; split <;> rfl
theorem tokRes_some {s : ByteArray} {l : List Tok} (h0 : lineOk s = true) (h : toks s 0 false 0 = some l) : tokRes s = (l, true) := by unfold tokRes; rw [if_pos h0, h]
/-- Tokens as they come out of a line: small texts, nothing hidden. -/
def Fresh (B : Nat) (l : List Tok) : Prop := ∀ t ∈ l, t.text.size ≤ B ∧ t.hidden = [] ∧ 1 ≤ t.kind ∧ t.kind ≤ 4
theorem cutKind_in (c : UInt8) : 1 ≤ cutKind c ∧ cutKind c ≤ 4 := by unfold cutKind; split <;> (try split) <;> (try split) <;> omega
theorem Fresh.nil (B : Nat) : Fresh B [] := by intro t h; simp at h
theorem Fresh.snoc {B : Nat} {l : List Tok} {s : ByteArray} {k e : Nat} {sp : Bool} {c : UInt8} (h : Fresh B l) (hB : s.size ≤ B) : Fresh B (l ++ [⟨cutKind c, s.extract k e, sp, []⟩]) := by
  intro t ht
  rcases List.mem_append.1 ht with ht | ht
  · exact h t ht
  · have := cutKind_in c
    obtain rfl := List.mem_singleton.1 ht
    exact ⟨by show (s.extract k e).size ≤ B; rw [ByteArray.size_extract]; omega, rfl, this⟩

end Go.Proofs.Ytigbaeokccknaaa
