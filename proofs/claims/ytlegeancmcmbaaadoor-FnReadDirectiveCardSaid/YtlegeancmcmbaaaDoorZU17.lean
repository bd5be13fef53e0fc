/- Texts that the proof of U stands on, in one file. -/
import Derived.Test.YtlegeancmcmbaaaDoorZU15
import Derived.Test.YtlegeancmcmbaaaDoorZU4
set_option linter.unusedVariables false
set_option linter.unusedSimpArgs false
/- A comment behind a line: no program. -/
namespace Go.Proofs.YtlegeancmcmbaaaDoor
open Go.RowKit

def tShut : List UInt8 → Bool
 | [] => false
 | [c] => decide (c = 34)
 | c :: d :: r => if c = 34 then true else if c = 92 then tShut r else tShut (d :: r)
theorem shut_quote (r : List UInt8) : tShut (34 :: r) = true ∧ tLen (34 :: r) = 1 := by
 cases r with
 | nil => exact ⟨rfl, rfl⟩
 | cons d t => constructor <;> simp [tShut, tLen]
theorem shut_back (d : UInt8) (r : List UInt8) : tShut (92 :: d :: r) = tShut r ∧ tLen (92 :: d :: r) = 2 + tLen r := by
 constructor
 ·rw [tShut, if_neg (by decide), if_pos rfl]
 ·rw [tLen, if_neg (by decide), if_pos rfl]
theorem shut_else {c : UInt8} (h1 : c ≠ 34) (h2 : c ≠ 92) (r : List UInt8) : tShut (c :: r) = tShut r ∧ tLen (c :: r) = 1 + tLen r := by
 cases r with
 | nil => exact ⟨by simp [tShut, h1], rfl⟩
 | cons d t => exact ⟨by rw [tShut, if_neg h1, if_neg h2], by rw [tLen, if_neg h1, if_neg h2]⟩
theorem shut_one : tShut [92] = false ∧ tLen [92] = 1 := ⟨by decide, rfl⟩
theorem shut_app : ∀ (n : Nat) (l x : List UInt8), l.length ≤ n → tShut l = true → tShut (l ++ x) = true ∧ tLen (l ++ x) = tLen l ∧ tShut (l.take (tLen l) ++ x) = true ∧ tLen (l.take (tLen l) ++ x) = tLen l := by
 intro n
 induction n with
 | zero => intro l x hl h; obtain rfl := List.length_eq_zero_iff.1 (by omega : l.length = 0); simp [tShut] at h
 |
  succ n ih =>
  intro l x hl h
  match l, hl, h with
  | [], _, h => simp [tShut] at h
  |
   c :: r, hl, h =>
   simp only [List.length_cons] at hl
   by_cases h1 : c = 34
   ·subst h1
    have e := shut_quote r
    have e1 := shut_quote (r ++ x)
    have e2 := shut_quote x
    rw [e.2, List.cons_append]
    exact ⟨e1.1, e1.2, by simpa using e2.1, by simpa using e2.2⟩
   by_cases h2 : c = 92
   ·subst h2
    match r, hl, h with
    | [], _, h => simp [tShut] at h
    |
     d :: r, hl, h =>
     have e := shut_back d r
     rw [e.1] at h
     simp only [List.length_cons] at hl
     obtain ⟨a1, a2, a3, a4⟩ := ih r x (by omega) h
     have e1 := shut_back d (r ++ x)
     have e2 := shut_back d (r.take (tLen r) ++ x)
     rw [e.2, show 2 + tLen r = tLen r + 1 + 1 by omega, List.take_succ_cons, List.take_succ_cons]
     simp only [List.cons_append]
     exact ⟨e1.1.trans a1, by rw [e1.2, a2]; omega, e2.1.trans a3, by rw [e2.2, a4]; omega⟩
   ·have e := shut_else h1 h2 r
    rw [e.1] at h
    obtain ⟨a1, a2, a3, a4⟩ := ih r x (by omega) h
    have e1 := shut_else h1 h2 (r ++ x)
    have e2 := shut_else h1 h2 (r.take (tLen r) ++ x)
    rw [e.2, show 1 + tLen r = tLen r + 1 by omega, List.take_succ_cons]
    simp only [List.cons_append]
    exact ⟨e1.1.trans a1, by rw [e1.2, a2]; omega, e2.1.trans a3, by rw [e2.2, a4]; omega⟩
theorem shut_not : ∀ (n : Nat) (l : List UInt8), l.length ≤ n → tShut l = false → tLen l = l.length := by
 intro n
 induction n with
 | zero => intro l hl h; obtain rfl := List.length_eq_zero_iff.1 (by omega : l.length = 0); rfl
 |
  succ n ih =>
  intro l hl h
  match l, hl, h with
  | [], _, _ => rfl
  |
   c :: r, hl, h =>
   simp only [List.length_cons] at hl
   by_cases h1 : c = 34
   ·subst h1; rw [(shut_quote r).1] at h; exact absurd h (by simp)
   by_cases h2 : c = 92
   ·subst h2
    match r, hl, h with
    | [], _, _ => rfl
    |
     d :: r, hl, h =>
     rw [(shut_back d r).1] at h
     simp only [List.length_cons] at hl
     rw [(shut_back d r).2, ih r (by omega) h]
     simp; omega
   ·rw [(shut_else h1 h2 r).1] at h
    rw [(shut_else h1 h2 r).2, ih r (by omega) h]
    simp; omega
theorem close_shut (s : ByteArray) (k : Nat) : tClose s k = if tShut (s.data.toList.drop k) = true then some (k + tLen (s.data.toList.drop k)) else none := by
 have hL := list_len s
 induction k using tClose.induct (s := s) with
 |
  case1 k h hc =>
  have e : s.data.toList[k]'(by omega) = 34 := by rw [list_at s k h]; exact UInt8.toNat_inj.1 hc
  rw [tClose_quote h hc, List.drop_eq_getElem_cons (by omega), e, (shut_quote _).1, (shut_quote _).2, if_pos rfl]
 |
  case2 k h h1 hc ih =>
  have e : s.data.toList[k]'(by omega) = 92 := by rw [list_at s k h]; exact UInt8.toNat_inj.1 hc
  rw [tClose_back h hc, List.drop_eq_getElem_cons (i := k) (by omega), e]
  by_cases h2 : k + 1 < s.size
  ·rw [List.drop_eq_getElem_cons (i := k + 1) (by omega), (shut_back _ _).1, (shut_back _ _).2, ih]
   split
   ·congr 1
    have e3 : k + 2 = k + 1 + 1 := rfl
    rw [e3]
    omega
   ·rfl
  ·rw [tClose_out (by omega), List.drop_of_length_le (by omega), shut_one.1, if_neg (by simp)]
 |
  case3 k h h1 h2 ih =>
  have e1 : s.data.toList[k]'(by omega) ≠ 34 := by rw [list_at s k h]; intro e; exact h1 (by rw [e]; rfl)
  have e2 : s.data.toList[k]'(by omega) ≠ 92 := by rw [list_at s k h]; intro e; exact h2 (by rw [e]; rfl)
  rw [tClose_else h h1 h2, List.drop_eq_getElem_cons (i := k) (by omega), (shut_else e1 e2 _).1, (shut_else e1 e2 _).2, ih]
  split
  ·congr 1; omega
  ·rfl
 | case4 k h => rw [tClose_out (by omega), List.drop_of_length_le (by omega), if_neg (by simp [tShut])]
def openF (l : List UInt8) : Bool :=
 match l with
 | [] => false
 |
  c :: r =>
  if [47, 47].isPrefixOf (c :: r) = true then false
  else if [47, 42].isPrefixOf (c :: r) = true then
   if Lib.index (r.drop 1) [42, 47] < 0 then false else openF (r.drop (1 + (Lib.index (r.drop 1) [42, 47]).toNat + 2))
  else if c = 34 then (if tShut r = true then openF (r.drop (tLen r)) else true)
  else openF r
termination_by l.length
decreasing_by
 all_goals simp_wf
 all_goals omega
section
variable {c : UInt8} {r : List UInt8}
theorem F_line (h : [47, 47].isPrefixOf (c :: r) = true) : F (c :: r) = some [] := by rw [F, if_pos h]
theorem F_com (h1 : [47, 47].isPrefixOf (c :: r) = false) (h : [47, 42].isPrefixOf (c :: r) = true) (hi : ¬ Lib.index (r.drop 1) [42, 47] < 0) : F (c :: r) = (F (r.drop (1 + (Lib.index (r.drop 1) [42, 47]).toNat + 2))).map (32 :: ·) := by
 rw [F, if_neg (by simp [h1]), if_pos h, if_neg hi]
theorem F_none (h1 : [47, 47].isPrefixOf (c :: r) = false) (h : [47, 42].isPrefixOf (c :: r) = true) (hi : Lib.index (r.drop 1) [42, 47] < 0) : F (c :: r) = none := by
 rw [F, if_neg (by simp [h1]), if_pos h, if_pos hi]
theorem F_text (h1 : [47, 47].isPrefixOf (c :: r) = false) (h2 : [47, 42].isPrefixOf (c :: r) = false) (h : c = 34) : F (c :: r) = (F (r.drop (tLen r))).map ((c :: r.take (tLen r)) ++ ·) := by
 rw [F, if_neg (by simp [h1]), if_neg (by simp [h2]), if_pos h]
theorem F_byte (h1 : [47, 47].isPrefixOf (c :: r) = false) (h2 : [47, 42].isPrefixOf (c :: r) = false) (h : c ≠ 34) : F (c :: r) = (F r).map (c :: ·) := by
 rw [F, if_neg (by simp [h1]), if_neg (by simp [h2]), if_neg h]
theorem O_line (h : [47, 47].isPrefixOf (c :: r) = true) : openF (c :: r) = false := by rw [openF, if_pos h]
theorem O_com (h1 : [47, 47].isPrefixOf (c :: r) = false) (h : [47, 42].isPrefixOf (c :: r) = true) (hi : ¬ Lib.index (r.drop 1) [42, 47] < 0) : openF (c :: r) = openF (r.drop (1 + (Lib.index (r.drop 1) [42, 47]).toNat + 2)) := by
 rw [openF, if_neg (by simp [h1]), if_pos h, if_neg hi]
theorem O_text (h1 : [47, 47].isPrefixOf (c :: r) = false) (h2 : [47, 42].isPrefixOf (c :: r) = false) (h : c = 34) : openF (c :: r) = if tShut r = true then openF (r.drop (tLen r)) else true := by
 rw [openF, if_neg (by simp [h1]), if_neg (by simp [h2]), if_pos h]
theorem O_byte (h1 : [47, 47].isPrefixOf (c :: r) = false) (h2 : [47, 42].isPrefixOf (c :: r) = false) (h : c ≠ 34) : openF (c :: r) = openF r := by
 rw [openF, if_neg (by simp [h1]), if_neg (by simp [h2]), if_neg h]
end
def noteX : List UInt8 := [32, 47, 47, 32, 120]
theorem F_noteX : F noteX = some [32] := by
 unfold noteX
 rw [F_byte (by decide) (by decide) (by decide), F_line (by decide)]
 rfl
theorem pre_note {a b c : UInt8} {r : List UInt8} (hb : b ≠ 32) : [a, b].isPrefixOf (c :: (r ++ noteX)) = [a, b].isPrefixOf (c :: r) := by
 rw [pre_cons, pre_cons]
 cases r with
 |
  nil =>
  show (a == c && (b == 32 && true)) = (a == c && false)
  have : (b == 32) = false := by simpa using hb
  rw [this]; simp
 | cons d t => rfl
theorem index_note : ∀ (l : List UInt8), ¬ Lib.index l [42, 47] < 0 → Lib.index (l ++ noteX) [42, 47] = Lib.index l [42, 47]
 | [], h => by unfold Lib.index at h; simp at h
 |
  b :: l, h => by
  unfold Lib.index at h ⊢
  rw [List.cons_append]
  dsimp only
  rw [pre_note (by decide)]
  split at h
  ·rename_i h1; rw [if_pos h1, if_pos h1]
  ·rename_i h1
   rw [if_neg h1, if_neg h1]
   split at h
   ·omega
   ·rename_i h2
    have h4 : ¬ Lib.index l [42, 47] = -1 := by simpa using h2
    have := Lib.index_ge l [42, 47]
    rw [index_note l (by omega), if_neg h2]
theorem F_note : ∀ (n : Nat) (l m : List UInt8), l.length ≤ n → F l = some m → openF l = false → F (l ++ noteX) = some m ∨ F (l ++ noteX) = some (m ++ [32]) := by
 intro n
 induction n with
 |
  zero =>
  intro l m hl h _
  obtain rfl := List.length_eq_zero_iff.1 (by omega : l.length = 0)
  rw [F, Option.some.injEq] at h
  subst h
  exact .inr F_noteX
 |
  succ n ih =>
  intro l m hl h ho
  match l, hl, h, ho with
  |
   [], _, h, _ =>
   rw [F, Option.some.injEq] at h
   subst h
   exact .inr F_noteX
  |
   c :: r, hl, h, ho =>
   simp only [List.length_cons] at hl
   rw [List.cons_append]
   cases h1 : [47, 47].isPrefixOf (c :: r)
   rotate_left
   ·rw [F_line h1, Option.some.injEq] at h
    subst h
    exact .inl (F_line (by rw [pre_note (by decide)]; exact h1))
   have g1 : [47, 47].isPrefixOf (c :: (r ++ noteX)) = false := by rw [pre_note (by decide)]; exact h1
   cases h2 : [47, 42].isPrefixOf (c :: r)
   rotate_left
   ·have g2 : [47, 42].isPrefixOf (c :: (r ++ noteX)) = true := by rw [pre_note (by decide)]; exact h2
    by_cases hi : Lib.index (r.drop 1) [42, 47] < 0
    ·rw [F_none h1 h2 hi] at h; exact absurd h (by simp)
    have hr : 1 ≤ r.length := by
     rw [pre_cons, Bool.and_eq_true] at h2
     obtain ⟨t, rfl⟩ := (pre_one 42 r).1 h2.2
     simp
    have hd : (r ++ noteX).drop 1 = r.drop 1 ++ noteX := by rw [List.drop_append_of_le_length hr]
    have hx := index_room (r.drop 1) (sub := [42, 47]) (by omega)
    simp only [List.length_cons, List.length_nil, List.length_drop] at hx
    have hj : Lib.index ((r ++ noteX).drop 1) [42, 47] = Lib.index (r.drop 1) [42, 47] := by rw [hd]; exact index_note _ hi
    rw [F_com h1 h2 hi] at h
    rw [O_com h1 h2 hi] at ho
    rw [F_com g1 g2 (by rw [hj]; exact hi), hj, List.drop_append_of_le_length (by omega)]
    obtain ⟨m', hm, rfl⟩ := Option.map_eq_some_iff.1 h
    rcases ih (r.drop (1 + (Lib.index (r.drop 1) [42, 47]).toNat + 2)) m' (by rw [List.length_drop]; omega) hm ho with h3 | h3
    ·left; rw [h3]; rfl
    ·right; rw [h3]; rfl
   have g2 : [47, 42].isPrefixOf (c :: (r ++ noteX)) = false := by rw [pre_note (by decide)]; exact h2
   by_cases hc : c = 34
   ·rw [O_text h1 h2 hc] at ho
    split at ho
    ·rename_i hs
     rw [F_text h1 h2 hc] at h
     have hle := tLen_le r
     obtain ⟨-, a2, -, -⟩ := shut_app r.length r noteX (Nat.le_refl _) hs
     rw [F_text g1 g2 hc, a2, List.drop_append_of_le_length hle, List.take_append_of_le_length hle]
     obtain ⟨m', hm, rfl⟩ := Option.map_eq_some_iff.1 h
     rcases ih (r.drop (tLen r)) m' (by rw [List.length_drop]; omega) hm ho with h3 | h3
     ·left; rw [h3]; rfl
     ·right; rw [h3]; simp
    ·simp at ho
   ·rw [F_byte h1 h2 hc] at h
    rw [O_byte h1 h2 hc] at ho
    rw [F_byte g1 g2 hc]
    obtain ⟨m', hm, rfl⟩ := Option.map_eq_some_iff.1 h
    rcases ih r m' (by omega) hm ho with h3 | h3
    ·left; rw [h3]; rfl
    ·right; rw [h3]; rfl

end Go.Proofs.YtlegeancmcmbaaaDoor

/- A comment behind a line: the same tokens. No program. -/
namespace Go.Proofs.YtlegeancmcmbaaaDoor
open Go.RowKit

theorem wEnd_all' (s : ByteArray) (k : Nat) : ∀ j, (h : j < s.size) → k ≤ j → j < wEnd s k → isWord s[j] = true := by
 induction k using wEnd.induct (s := s) with
 |
  case1 k hk hw ih =>
  intro j h h1 h2
  by_cases e : j = k
  ·subst e; exact hw
  ·rw [wEnd_in hk hw] at h2; exact ih j h (by omega) h2
 | case2 k hk hw => intro j h h1 h2; rw [wEnd_stop hk (by simpa using hw)] at h2; omega
 | case3 k hk => intro j h h1 h2; omega
theorem twoAt_next {s : ByteArray} {k : Nat} (h : twoAt s k = true) : ∃ hk : k + 1 < s.size, s[k + 1].toNat ≠ 34 := by
 have hr := twoAt_room h
 refine ⟨hr, ?_⟩
 unfold twoAt at h
 simp only [two_bAt, bAt_lt hr, Option.some.injEq, Bool.or_eq_true, Bool.and_eq_true, decide_eq_true_eq] at h
 rcases h with (((((h | h) | h) | h) | h) | h) | h <;> (rw [h.2]; decide)
theorem toks_to {z : ByteArray} {p : Nat} (hp : p < z.size) (hq : z[p].toNat = 34) (hn : ∀ sp n, toks z p sp n = none) : ∀ (d k : Nat) (sp : Bool) (n : Nat), p - k ≤ d → k ≤ p → (∀ j, (hj : j < z.size) → k ≤ j → j < p → z[j].toNat ≠ 34) → toks z k sp n = none := by
 intro d
 induction d with
 |
  zero =>
  intro k sp n hd hk _
  obtain rfl : k = p := by omega
  exact hn _ _
 |
  succ d ih =>
  intro k sp n hd hk hb
  by_cases he : k = p
  ·subst he; exact hn _ _
  have hkz : k < z.size := by omega
  have hnq := hb k hkz (Nat.le_refl _) (by omega)
  rw [toks, dif_pos hkz]
  split
  ·exact ih (k + 1) true n (by omega) (by omega) (fun j hj h1 h2 => hb j hj (by omega) h2)
  split
  ·rfl
  rename_i h32 hbad
  have hc0 : 0 ≤ cutEnd z k := by omega
  have hr := cutEnd_room hc0
  have hle : (cutEnd z k).toNat ≤ p := by
   cases hw : isWord z[k]
   ·rw [cutEnd_mark hkz hw hnq] at hc0 ⊢
    split
    ·omega
    ·rename_i h0
     have := mLen_room hkz
     rw [Int.toNat_natCast]
     by_cases ht : twoAt z k = true
     ·obtain ⟨h1, h2⟩ := twoAt_next ht
      have : k + 1 ≠ p := fun e => by subst e; exact h2 hq
      omega
     ·have : mLen z k ≤ 1 := by
       unfold mLen
       rw [if_neg ht]
       split <;> (try split) <;> omega
      omega
   ·rw [cutEnd_word hkz hw] at hc0 ⊢
    split
    ·omega
    ·rw [Int.toNat_natCast]
     refine Nat.le_of_not_lt fun h => ?_
     have := wEnd_all' z k p hp hk h
     rw [isWord_iff] at this
     omega
  rw [ih (max (k + 1) (cutEnd z k).toNat) false (n + 1) (by omega) (by omega) (fun j hj h1 h2 => hb j hj (by omega) h2)]
  rfl
theorem toB_get {l : List UInt8} {k : Nat} (h : k < (toB l).size) : (toB l)[k] = l[k]'(by simpa [toB, ByteArray.size] using h) := by simp [toB, ByteArray.getElem_eq_getElem_data]
theorem toB_size (l : List UInt8) : (toB l).size = l.length := by simp [toB, ByteArray.size]
theorem toB_list (l : List UInt8) : (toB l).data.toList = l := by simp [toB]
theorem tok_open {l : List UInt8} {k : Nat} (hk : k < l.length) (h : l[k] = 34) (hs : tShut (l.drop (k + 1)) = false) (sp : Bool) (n : Nat) : toks (toB l) k sp n = none := by
 have hk' : k < (toB l).size := by rw [toB_size]; exact hk
 have hg : (toB l)[k] = 34 := by rw [toB_get]; exact h
 rw [toks, dif_pos hk', if_neg (by rw [hg]; decide), if_pos]
 left
 rw [cutEnd_text hk' (by rw [hg]; decide) (by rw [hg]; decide), close_shut, toB_list, if_neg (by rw [hs]; simp)]
 decide
theorem tok_shut {l : List UInt8} {k : Nat} (hk : k < l.length) (h : l[k] = 34) (hs : tShut (l.drop (k + 1)) = true) (hn : ∀ sp n, toks (toB l) (k + 1 + tLen (l.drop (k + 1))) sp n = none) (sp : Bool) (n : Nat) : toks (toB l) k sp n = none := by
 have hk' : k < (toB l).size := by rw [toB_size]; exact hk
 have hg : (toB l)[k] = 34 := by rw [toB_get]; exact h
 rw [toks, dif_pos hk', if_neg (by rw [hg]; decide)]
 split
 ·rfl
 have hc : cutEnd (toB l) k = ((k + 1 + tLen (l.drop (k + 1)) : Nat) : Int) := by
  rw [cutEnd_text hk' (by rw [hg]; decide) (by rw [hg]; decide), close_shut, toB_list, if_pos hs]
 rw [hc, Int.toNat_natCast, Nat.max_eq_right (by omega), hn]
 rfl
theorem open_none : ∀ (n : Nat) (l m : List UInt8), l.length ≤ n → F l = some m → openF l = true → ∀ (p : List UInt8) (k : Nat) (sp : Bool) (q : Nat), k ≤ p.length → (∀ j, (hj : j < p.length) → k ≤ j → p[j] ≠ 34) → toks (toB (p ++ m)) k sp q = none := by
 intro n
 induction n with
 |
  zero =>
  intro l m hl _ ho
  obtain rfl := List.length_eq_zero_iff.1 (by omega : l.length = 0)
  simp [openF] at ho
 |
  succ n ih =>
  intro l m hl h ho p k sp q hk hb
  match l, hl, h, ho with
  | [], _, _, ho => simp [openF] at ho
  |
   c :: r, hl, h, ho =>
   simp only [List.length_cons] at hl
   cases h1 : [47, 47].isPrefixOf (c :: r)
   rotate_left
   ·rw [O_line h1] at ho; simp at ho
   cases h2 : [47, 42].isPrefixOf (c :: r)
   rotate_left
   ·by_cases hi : Lib.index (r.drop 1) [42, 47] < 0
    ·rw [F_none h1 h2 hi] at h; exact absurd h (by simp)
    rw [F_com h1 h2 hi] at h
    rw [O_com h1 h2 hi] at ho
    obtain ⟨m', hm, rfl⟩ := Option.map_eq_some_iff.1 h
    have := ih _ m' (by rw [List.length_drop]; omega) hm ho (p ++ [32]) k sp q (by simp; omega) (fun j hj hkj => by
     by_cases hjp : j < p.length
     ·rw [List.getElem_append_left hjp]; exact hb j hjp hkj
     ·simp at hj
      obtain rfl : j = p.length := by omega
      simp)
    rwa [List.append_assoc] at this
   by_cases hc : c = 34
   ·subst hc
    rw [F_text h1 h2 rfl] at h
    rw [O_text h1 h2 rfl] at ho
    obtain ⟨m', hm, rfl⟩ := Option.map_eq_some_iff.1 h
    have hle := tLen_le r
    have hL : (p ++ ((34 :: r.take (tLen r)) ++ m')).length = p.length + (1 + tLen r + m'.length) := by simp; omega
    have hpos : p.length < (p ++ ((34 :: r.take (tLen r)) ++ m')).length := by rw [hL]; omega
    have hq : (p ++ ((34 :: r.take (tLen r)) ++ m'))[p.length] = 34 := by simp
    have hdr : (p ++ ((34 :: r.take (tLen r)) ++ m')).drop (p.length + 1) = r.take (tLen r) ++ m' := by
     rw [← List.drop_drop, List.drop_left]; rfl
    have hpz : p.length < (toB (p ++ ((34 :: r.take (tLen r)) ++ m'))).size := by rw [toB_size]; exact hpos
    refine toks_to hpz (by rw [toB_get, hq]; decide) (fun sp n => ?_) p.length k sp q (by omega) hk (fun j hj hkj hjp => by
     rw [toB_get, List.getElem_append_left hjp]
     intro e
     exact hb j hjp hkj (UInt8.toNat_inj.1 e))
    split at ho
    ·rename_i hs
     obtain ⟨-, -, a3, a4⟩ := shut_app r.length r m' (Nat.le_refl _) hs
     refine tok_shut hpos hq (by rw [hdr]; exact a3) (fun sp n => ?_) sp n
     rw [hdr, a4]
     have := ih _ m' (by rw [List.length_drop]; omega) hm ho (p ++ (34 :: r.take (tLen r))) (p.length + 1 + tLen r) sp n (by simp; omega) (fun j hj hkj => by simp at hj; omega)
     rwa [List.append_assoc] at this
    ·rename_i hs
     have hs' : tShut r = false := by simpa using hs
     have hnl := shut_not r.length r (Nat.le_refl _) hs'
     have hm' : m' = [] := by
      rw [List.drop_of_length_le (by omega), F, Option.some.injEq] at hm
      exact hm.symm
     subst hm'
     refine tok_open hpos hq ?_ sp n
     rw [hdr, List.append_nil, List.take_of_length_le (by omega)]
     exact hs'
   ·rw [F_byte h1 h2 hc] at h
    rw [O_byte h1 h2 hc] at ho
    obtain ⟨m', hm, rfl⟩ := Option.map_eq_some_iff.1 h
    have := ih r m' (by omega) hm ho (p ++ [c]) k sp q (by simp; omega) (fun j hj hkj => by
     by_cases hjp : j < p.length
     ·rw [List.getElem_append_left hjp]; exact hb j hjp hkj
     ·simp at hj
      obtain rfl : j = p.length := by omega
      simpa using hc)
    rwa [List.append_assoc] at this
theorem toks_space {x : ByteArray} : ∀ (d k : Nat) (sp : Bool) (n : Nat) (l : List Tok), x.size - k ≤ d → toks x k sp n = some l → toks (x ++ ⟨#[32]⟩) k sp n = some l := by
 intro d
 have hsz : (x ++ (⟨#[32]⟩ : ByteArray)).size = x.size + 1 := by rw [ByteArray.size_append]; rfl
 have h32 : bAt (x ++ ⟨#[32]⟩) x.size = some 32 := by rw [bAt_right (j := 0) (by omega)]; rfl
 have hend : ∀ k sp n l, ¬ k < x.size → toks x k sp n = some l → toks (x ++ ⟨#[32]⟩) k sp n = some l := by
  intro k sp n l hk h
  rw [toks, dif_neg hk] at h
  by_cases hk2 : k = x.size
  ·subst hk2
   obtain ⟨hj, e⟩ := bAt_some h32
   rw [toks, dif_pos hj, if_pos (by rw [e]; decide), toks, dif_neg (by omega)]
   exact h
  ·rw [toks, dif_neg (by omega)]
   exact h
 induction d with
 | zero => intro k sp n l hd h; exact hend k sp n l (by omega) h
 |
  succ d ih =>
  intro k sp n l hd h
  by_cases hk : k < x.size
  rotate_left
  ·exact hend k sp n l hk h
  have hk' : k < (x ++ (⟨#[32]⟩ : ByteArray)).size := by omega
  have hg : (x ++ (⟨#[32]⟩ : ByteArray))[k] = x[k] := by
   have := bAt_left (s := x) (t := ⟨#[32]⟩) hk
   rw [bAt_lt hk', bAt_lt hk, Option.some.injEq] at this
   exact this
  rw [toks, dif_pos hk] at h
  rw [toks, dif_pos hk', hg]
  split at h
  ·rename_i h0; rw [if_pos h0]; exact ih _ _ _ _ (by omega) h
  rename_i h0
  rw [if_neg h0]
  split at h
  ·simp at h
  rename_i hbad
  obtain ⟨e, he, hke, hex⟩ := (cutEnd_ge x k).resolve_left (by omega)
  have hc : cutEnd (x ++ ⟨#[32]⟩) k = (e : Nat) := by
   have := cut_same (s := x) (s' := x ++ ⟨#[32]⟩) (k := k) (k' := k) (d := e - k) (by rw [he]; congr 1; omega) (fun j hj => bAt_left (by omega)) (by
    rw [show k + (e - k) = e by omega]
    by_cases h9 : e < x.size
    ·exact .inl (bAt_left h9)
    ·obtain rfl : e = x.size := by omega
     exact ends_space h32)
   rw [this]; congr 1; omega
  rw [he, Int.toNat_natCast, Nat.max_eq_right (by omega)] at h
  rw [hc, if_neg (by omega), Int.toNat_natCast, Nat.max_eq_right (by omega)]
  obtain ⟨l', hl', rfl⟩ := Option.map_eq_some_iff.1 h
  rw [ih e false (n + 1) l' (by omega) hl']
  rw [Option.map_some]
  congr 3
  refine bAt_ext (by rw [ByteArray.size_extract, ByteArray.size_extract]; omega) fun j hj => ?_
  rw [ByteArray.size_extract] at hj
  rw [bAt_sub (by omega) (by omega), bAt_sub (by omega) (by omega), bAt_left (by omega)]
def noteB : ByteArray := ⟨#[32, 47, 47, 32, 120]⟩
theorem note_toks {s x : ByteArray} {l : List Tok} (hs : stripRes s = (x, true)) (ht : tokRes x = (l, true)) (hz : s.size + 5 ≤ 200) : ∃ y, stripRes (s ++ noteB) = (y, true) ∧ tokRes y = (l, true) := by
 have hl0 : lineOk s = true := by
  cases h : lineOk s
  ·rw [stripRes_bad h] at hs; simp at hs
  ·rfl
 obtain ⟨-, hxs, hx0⟩ := strip_again hs
 have hx : strip1 s 0 = some x := by
  unfold stripRes at hs
  rw [if_pos hl0] at hs
  cases h : strip1 s 0 with
  | none => rw [h] at hs; simp at hs
  | some y => rw [h] at hs; simp at hs; rw [hs]
 have htx : toks x 0 false 0 = some l := by
  unfold tokRes at ht
  rw [if_pos hx0] at ht
  cases h : toks x 0 false 0 with
  | none => rw [h] at ht; simp at ht
  | some y => rw [h] at ht; simp at ht; rw [ht]
 rw [strip1_F, List.drop_zero] at hx
 obtain ⟨m, hm, rfl⟩ := Option.map_eq_some_iff.1 hx
 have hl1 : lineOk (s ++ noteB) = true := by
  refine AllOk.line ((AllOk.of hl0).app (fun j c h => ?_)) (by rw [ByteArray.size_append]; exact hz)
  have h9 : ∀ k, k < 5 → ∀ c, bAt noteB k = some c → okByte c = true := by decide
  obtain ⟨hj, -⟩ := bAt_some h
  exact h9 j hj c h
 have hlist : (s ++ noteB).data.toList = s.data.toList ++ noteX := by simp [noteB, noteX]
 have ho : openF s.data.toList = false := by
  cases h : openF s.data.toList
  ·rfl
  ·have := open_none _ _ m (Nat.le_refl _) hm h [] 0 false 0 (Nat.le_refl _) (fun j hj => by simp at hj)
   rw [List.nil_append, htx] at this
   simp at this
 rcases F_note _ _ m (Nat.le_refl _) hm ho with h | h
 ·refine ⟨toB m, stripRes_some hl1 ?_, ht⟩
  rw [strip1_F, List.drop_zero, hlist, h]; rfl
 ·refine ⟨toB (m ++ [32]), stripRes_some hl1 ?_, ?_⟩
  ·rw [strip1_F, List.drop_zero, hlist, h]; rfl
  ·have e : toB (m ++ [32]) = toB m ++ ⟨#[32]⟩ := by rw [toB_app]; rfl
   rw [e]
   refine tokRes_some ?_ (toks_space _ 0 false 0 l (Nat.le_refl _) htx)
   refine AllOk.line ((AllOk.of hx0).app (fun j c h => ?_)) (by rw [ByteArray.size_append]; show _ + 1 ≤ 200; omega)
   have h9 : ∀ k, k < 1 → ∀ c, bAt (⟨#[32]⟩ : ByteArray) k = some c → okByte c = true := by decide
   obtain ⟨hj, -⟩ := bAt_some h
   exact h9 j hj c h

end Go.Proofs.YtlegeancmcmbaaaDoor
