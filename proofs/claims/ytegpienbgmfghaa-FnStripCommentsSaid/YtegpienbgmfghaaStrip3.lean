/- Stripping again changes nothing: lists of bytes alone. -/
import Derived.Test.YtegpienbgmfghaaStrip0
namespace Go.Proofs.Ytegpienbgmfghaa
open Go.RowKit

def tLen : List UInt8 → Nat
  | [] => 0
  | [c] => 1
  | c :: d :: r => if c = 34 then 1 else if c = 92 then 2 + tLen r else 1 + tLen (d :: r)
theorem tLen_le : ∀ l, tLen l ≤ l.length
  | [] => by simp [tLen]
  | [c] => by simp [tLen]
  | c :: d :: r => by
    have h1 := tLen_le r
    have h2 := tLen_le (d :: r)
    rw [tLen]
    simp only [List.length_cons] at *
    split
    · omega
    · split <;> omega
theorem tLen_pos (c : UInt8) (r : List UInt8) : 1 ≤ tLen (c :: r) := by
  cases r with
  | nil => simp [tLen]
  | cons d t =>
    rw [tLen]
    split
    · omega
    · split <;> omega
/-- Either the text ends with its own last byte, whatever stands behind it, or it goes to the end. -/
theorem tLen_app : ∀ (l : List UInt8), (∀ x, tLen (l.take (tLen l) ++ x) = tLen l) ∨ l.drop (tLen l) = []
  | [] => .inr rfl
  | [c] => .inr rfl
  | c :: d :: r => by
    by_cases h1 : c = 34
    · left
      intro x
      have e : tLen (c :: d :: r) = 1 := by rw [tLen, if_pos h1]
      rw [e]
      cases x with
      | nil => rfl
      | cons y t => simp [tLen, h1]
    · by_cases h2 : c = 92
      · have e : tLen (c :: d :: r) = 2 + tLen r := by rw [tLen, if_neg h1, if_pos h2]
        rw [e]
        have e2 : 2 + tLen r = tLen r + 1 + 1 := by omega
        rcases tLen_app r with h | h
        · left
          intro x
          rw [e2, List.take_succ_cons, List.take_succ_cons, List.cons_append, List.cons_append, tLen, if_neg h1, if_pos h2, h x, e2.symm]
        · right
          rw [e2, List.drop_succ_cons, List.drop_succ_cons, h]
      · have e : tLen (c :: d :: r) = 1 + tLen (d :: r) := by rw [tLen, if_neg h1, if_neg h2]
        rw [e]
        have e2 : 1 + tLen (d :: r) = tLen (d :: r) + 1 := by omega
        rcases tLen_app (d :: r) with h | h
        · left
          intro x
          have hx := h x
          have hp := tLen_pos d r
          rw [e2, List.take_succ_cons, List.cons_append]
          obtain ⟨n, hn⟩ : ∃ n, tLen (d :: r) = n + 1 := ⟨tLen (d :: r) - 1, by omega⟩
          rw [hn] at hx ⊢
          rw [List.take_succ_cons, List.cons_append] at hx ⊢
          rw [tLen, if_neg h1, if_neg h2, hx]
          omega
        · right
          rw [e2, List.drop_succ_cons, h]
def F (l : List UInt8) : Option (List UInt8) :=
  match l with
  | [] => some []
  | c :: r =>
    if [47, 47].isPrefixOf (c :: r) = true then some []
    else if [47, 42].isPrefixOf (c :: r) = true then
      if Lib.index (r.drop 1) [42, 47] < 0 then none else (F (r.drop (1 + (Lib.index (r.drop 1) [42, 47]).toNat + 2))).map (32 :: ·)
    else if c = 34 then (F (r.drop (tLen r))).map ((c :: r.take (tLen r)) ++ ·)
    else (F r).map (c :: ·)
termination_by l.length
decreasing_by
  all_goals simp_wf
  all_goals omega

theorem pre_cons (a b c : UInt8) (r : List UInt8) : [a, b].isPrefixOf (c :: r) = (a == c && [b].isPrefixOf r) := rfl
theorem pre_one (b : UInt8) (r : List UInt8) : [b].isPrefixOf r = true ↔ ∃ t, r = b :: t := by
  cases r with
  | nil => simp
  | cons x t =>
    have e : [b].isPrefixOf (x :: t) = (b == x && true) := rfl
    rw [e, Bool.and_true, beq_iff_eq]
    exact ⟨fun h => ⟨t, by rw [h]⟩, fun ⟨t', h⟩ => by cases h; rfl⟩

/-- What F hands back begins as the line does, or with a space for a comment. -/
def Begins (l m : List UInt8) : Prop := m = [] ∨ (∃ x t, m = x :: t ∧ (x = 32 ∨ l.head? = some x))
theorem F_again (l : List UInt8) : ∀ m, F l = some m → F m = some m ∧ Begins l m ∧ m.length ≤ l.length ∧ ∀ x ∈ m, x ∈ l ∨ x = 32 := by
  induction l using F.induct with
  | case1 => intro m h; rw [F] at h; cases h; exact ⟨by rw [F], .inl rfl, by simp, by simp⟩
  | case2 c r h1 => intro m h; rw [F, if_pos h1] at h; cases h; exact ⟨by rw [F], .inl rfl, by simp, by simp⟩
  | case3 c r h1 h2 h3 => intro m h; rw [F, if_neg h1, if_pos h2, if_pos h3] at h; cases h
  | case4 c r h1 h2 h3 ih =>
    intro m h
    rw [F, if_neg h1, if_pos h2, if_neg h3] at h
    obtain ⟨m', hm', rfl⟩ := Option.map_eq_some_iff.1 h
    obtain ⟨i1, i2, i3, i4⟩ := ih m' hm'
    refine ⟨?_, .inr ⟨32, m', rfl, .inl rfl⟩, ?_, ?_⟩
    · rw [F, if_neg (by simp [pre_cons]), if_neg (by simp [pre_cons]), if_neg (by decide), i1]; rfl
    · simp only [List.length_cons, List.length_drop] at i3 ⊢; omega
    · intro x hx
      rcases List.mem_cons.1 hx with rfl | hx
      · exact .inr rfl
      · rcases i4 x hx with h | h
        · exact .inl (List.mem_cons_of_mem _ (List.mem_of_mem_drop h))
        · exact .inr h
  | case5 r h1 h2 ih =>
    intro m h
    rw [F, if_neg h1, if_neg h2, if_pos rfl] at h
    obtain ⟨m', hm', rfl⟩ := Option.map_eq_some_iff.1 h
    obtain ⟨i1, i2, i3, i4⟩ := ih m' hm'
    have hl := tLen_le r
    have hlen : (r.take (tLen r)).length = tLen r := by rw [List.length_take]; omega
    have ht : tLen (r.take (tLen r) ++ m') = tLen r := by
      rcases tLen_app r with hd | hd
      · exact hd m'
      · rw [hd, F] at hm'
        cases hm'
        have := congrArg List.length hd
        simp only [List.length_drop, List.length_nil] at this
        rw [List.append_nil, List.take_of_length_le (by omega)]
    refine ⟨?_, .inr ⟨34, _, rfl, .inr rfl⟩, ?_, ?_⟩
    · show F (34 :: (r.take (tLen r) ++ m')) = _
      rw [F, if_neg (by simp [pre_cons]), if_neg (by simp [pre_cons]), if_pos rfl, ht, List.drop_append_of_le_length (by omega), List.drop_of_length_le (by omega), List.nil_append, i1, List.take_append_of_le_length (by omega), List.take_of_length_le (by omega)]
      rfl
    · simp only [List.length_cons, List.length_append, List.length_drop, hlen] at i3 ⊢; omega
    · intro x hx
      rcases List.mem_append.1 hx with hx | hx
      · rcases List.mem_cons.1 hx with rfl | hx
        · exact .inl (by simp)
        · exact .inl (List.mem_cons_of_mem _ (List.mem_of_mem_take hx))
      · rcases i4 x hx with h | h
        · exact .inl (List.mem_cons_of_mem _ (List.mem_of_mem_drop h))
        · exact .inr h
  | case6 c r h1 h2 h3 ih =>
    intro m h
    rw [F, if_neg h1, if_neg h2, if_neg h3] at h
    obtain ⟨m', hm', rfl⟩ := Option.map_eq_some_iff.1 h
    obtain ⟨i1, i2, i3, i4⟩ := ih m' hm'
    have no : ∀ b : UInt8, b ≠ 32 → ¬ [47, b].isPrefixOf (c :: r) = true → ¬ [47, b].isPrefixOf (c :: m') = true := by
      intro b hb hno hyes
      rw [pre_cons, Bool.and_eq_true] at hyes hno
      obtain ⟨t, rfl⟩ := (pre_one b m').1 hyes.2
      rcases i2 with h | ⟨x, t', he, h⟩
      · cases h
      · simp only [List.cons.injEq] at he
        obtain ⟨rfl, rfl⟩ := he
        rcases h with h | h
        · exact hb h
        · apply hno
          refine ⟨hyes.1, (pre_one b r).2 ?_⟩
          cases r with
          | nil => cases h
          | cons y r => simp only [List.head?_cons, Option.some.injEq] at h; exact ⟨r, by rw [h]⟩
    refine ⟨?_, .inr ⟨c, m', rfl, .inr rfl⟩, ?_, ?_⟩
    · rw [F, if_neg (no 47 (by decide) h1), if_neg (no 42 (by decide) h2), if_neg h3, i1]; rfl
    · simp only [List.length_cons]; omega
    · intro x hx
      rcases List.mem_cons.1 hx with rfl | hx
      · exact .inl (by simp)
      · rcases i4 x hx with h | h
        · exact .inl (List.mem_cons_of_mem _ h)
        · exact .inr h

theorem list_len (s : ByteArray) : s.data.toList.length = s.size := Array.length_toList
theorem list_at (s : ByteArray) (k : Nat) (h : k < s.size) : s.data.toList[k]'(by rw [list_len]; exact h) = s[k] := by rw [Array.getElem_toList]; rfl
theorem tEnd_len (s : ByteArray) (k : Nat) : k ≤ s.size → tEnd s k = k + tLen (s.data.toList.drop k) := by
  have hL := list_len s
  induction k using tEnd.induct (s := s) with
  | case1 k h hc =>
    intro _
    have e : s.data.toList[k]'(by omega) = 34 := by rw [list_at s k h]; exact UInt8.toNat_inj.1 hc
    rw [tEnd_quote h hc, List.drop_eq_getElem_cons (by omega), e]
    cases s.data.toList.drop (k + 1) <;> simp [tLen]
  | case2 k h h1 hc ih =>
    intro _
    have e : s.data.toList[k]'(by omega) = 92 := by rw [list_at s k h]; exact UInt8.toNat_inj.1 hc
    rw [tEnd_back h hc, List.drop_eq_getElem_cons (by omega), e]
    by_cases h2 : k + 1 < s.size
    · rw [ih (by omega), List.drop_eq_getElem_cons (i := k + 1) (by omega), tLen, if_neg (by decide), if_pos rfl]
      have e3 : k + 2 = k + 1 + 1 := rfl
      rw [e3]
      omega
    · rw [tEnd_out (by omega), List.drop_of_length_le (by omega)]
      simp [tLen]; omega
  | case3 k h h1 h2 ih =>
    intro _
    have e1 : ¬ s.data.toList[k]'(by omega) = 34 := by rw [list_at s k h]; intro e; exact h1 (by rw [e]; rfl)
    have e2 : ¬ s.data.toList[k]'(by omega) = 92 := by rw [list_at s k h]; intro e; exact h2 (by rw [e]; rfl)
    rw [tEnd_else h h1 h2, List.drop_eq_getElem_cons (by omega)]
    by_cases h3 : k + 1 < s.size
    · rw [ih (by omega), List.drop_eq_getElem_cons (i := k + 1) (by omega), tLen, if_neg e1, if_neg e2]
      omega
    · rw [tEnd_out (by omega), List.drop_of_length_le (by omega)]
      simp [tLen]; omega
  | case4 k h => intro _; rw [tEnd_out (by omega), List.drop_of_length_le (by omega)]; simp [tLen]; omega

def toB (l : List UInt8) : ByteArray := ⟨l.toArray⟩
theorem toB_app (a b : List UInt8) : toB (a ++ b) = toB a ++ toB b := by apply Go.WideShapes.bytes_inj; simp [toB]
theorem toB_ext (s : ByteArray) (i j : Nat) : s.extract i j = toB ((s.data.toList.drop i).take (j - i)) := by apply Go.WideShapes.bytes_inj; rw [ext_list]; simp [toB]
theorem map_app (o : Option (List UInt8)) (p : ByteArray) (q : List UInt8) (h : p = toB q) : (o.map toB).map (p ++ ·) = (o.map (q ++ ·)).map toB := by
  subst h
  cases o with
  | none => rfl
  | some x => exact congrArg some (toB_app q x).symm
theorem strip1_F (s : ByteArray) (k : Nat) : strip1 s k = (F (s.data.toList.drop k)).map toB := by
  have hL := list_len s
  induction k using strip1.induct (s := s) with
  | case1 k h h1 =>
    rw [strip1, dif_pos h, if_pos h1]
    unfold two at h1
    rw [List.drop_eq_getElem_cons (by omega)] at h1 ⊢
    rw [F, if_pos h1]; rfl
  | case2 k h h1 h2 h3 =>
    rw [strip1, dif_pos h, if_neg h1, if_pos h2, if_pos h3]
    unfold two at h1 h2
    rw [List.drop_eq_getElem_cons (by omega)] at h1 h2 ⊢
    have hi : Lib.index (s.data.toList.drop (k + 1 + 1)) [42, 47] < 0 := by
      unfold cEnd at h3
      have : k + 2 = k + 1 + 1 := rfl
      rw [this] at h3
      split at h3
      · assumption
      · have := Lib.index_ge (s.data.toList.drop (k + 1 + 1)) [42, 47]; omega
    rw [F, if_neg h1, if_pos h2, List.drop_drop, if_pos hi]; rfl
  | case3 k h h1 h2 h3 ih =>
    rw [strip1, dif_pos h, if_neg h1, if_pos h2, if_neg h3, ih]
    have hc : cEnd s (k + 2) = (k : Int) + 2 + Lib.index (s.data.toList.drop (k + 1 + 1)) [42, 47] + 2 ∧ ¬ Lib.index (s.data.toList.drop (k + 1 + 1)) [42, 47] < 0 := by
      unfold cEnd at h3 ⊢
      have : k + 2 = k + 1 + 1 := rfl
      rw [this] at h3 ⊢
      split at h3
      · omega
      · rename_i hn; rw [if_neg hn]; exact ⟨by omega, hn⟩
    unfold two at h1 h2
    rw [List.drop_eq_getElem_cons (by omega)] at h1 h2
    rw [List.drop_eq_getElem_cons (i := k) (by omega), F, if_neg h1, if_pos h2, List.drop_drop, if_neg hc.2, List.drop_drop, Nat.max_eq_right (by omega), show (cEnd s (k + 2)).toNat = k + 1 + (1 + (Lib.index (s.data.toList.drop (k + 1 + 1)) [42, 47]).toNat + 2) from by omega]
    exact map_app _ _ [32] rfl
  | case4 k h h1 h2 h3 ih =>
    rw [strip1, dif_pos h, if_neg h1, if_neg h2, if_pos h3, ih]
    have hb := tEnd_bounds s (k + 1)
    have hb2 := hb.2 (by omega)
    have ht := tEnd_len s (k + 1) (by omega)
    have e : s.data.toList[k]'(by omega) = 34 := by rw [list_at s k h]; exact UInt8.toNat_inj.1 h3
    unfold two at h1 h2
    rw [List.drop_eq_getElem_cons (by omega)] at h1 h2
    rw [List.drop_eq_getElem_cons (i := k) (by omega), F, if_neg h1, if_neg h2, if_pos e, List.drop_drop, Nat.max_eq_right (by omega), ← ht]
    refine map_app _ _ _ ?_
    rw [toB_ext, List.drop_eq_getElem_cons (by omega), show tEnd s (k + 1) - k = tLen (s.data.toList.drop (k + 1)) + 1 from by omega, List.take_succ_cons]
  | case5 k h h1 h2 h3 ih =>
    rw [strip1, dif_pos h, if_neg h1, if_neg h2, if_neg h3, ih]
    have e : ¬ s.data.toList[k]'(by omega) = 34 := by rw [list_at s k h]; intro e; exact h3 (by rw [e]; rfl)
    unfold two at h1 h2
    rw [List.drop_eq_getElem_cons (by omega)] at h1 h2
    rw [List.drop_eq_getElem_cons (i := k) (by omega), F, if_neg h1, if_neg h2, if_neg e]
    refine map_app _ _ [_] ?_
    rw [toB_ext, List.drop_eq_getElem_cons (by omega), show k + 1 - k = 0 + 1 from by omega, List.take_succ_cons, List.take_zero]
  | case6 k h => rw [strip1, dif_neg h, List.drop_of_length_le (by omega), F]; rfl

/-- Stripping a stripped line changes nothing; it is a line, and not longer. -/
theorem strip_again {s x : ByteArray} (h : stripRes s = (x, true)) : stripRes x = (x, true) ∧ x.size ≤ s.size ∧ lineOk x = true := by
  unfold stripRes at h
  split at h
  · rename_i h0
    rw [strip1_F, List.drop_zero] at h
    cases hF : F s.data.toList with
    | none => rw [hF] at h; cases h
    | some m =>
      rw [hF] at h
      have hx : x = toB m := by
        have : (toB m, true) = (x, true) := h
        exact (Prod.mk.inj this).1.symm
      obtain ⟨a1, _, a3, a4⟩ := F_again _ _ hF
      have hm : x.data.toList = m := by rw [hx]; simp [toB]
      have hsz : x.size ≤ s.size := by rw [← list_len x, ← list_len s, hm]; exact a3
      have hok : lineOk x = true := by
        unfold lineOk at h0 ⊢
        rw [Bool.and_eq_true, decide_eq_true_eq, List.all_eq_true] at h0 ⊢
        refine ⟨by omega, fun b hb => ?_⟩
        rw [hm] at hb
        rcases a4 b hb with h | rfl
        · exact h0.2 b h
        · decide
      refine ⟨?_, hsz, hok⟩
      refine stripRes_some hok ?_
      rw [strip1_F, List.drop_zero, hm, a1, hx]; rfl
  · cases h

end Go.Proofs.Ytegpienbgmfghaa
