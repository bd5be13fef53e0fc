/- What is printed is read again; tokens of a line are valid: no program. -/
import Derived.Test.YtigbaeokccknaaaPr0
import Derived.Test.YtigbaeokccknaaaTok8
namespace Go.Proofs.Ytigbaeokccknaaa
open Go.RowKit

def bAt (s : ByteArray) (j : Nat) : Option UInt8 := if h : j < s.size then some s[j] else none
theorem bAt_lt {s : ByteArray} {j : Nat} (h : j < s.size) : bAt s j = some s[j] := by unfold bAt; rw [dif_pos h]
theorem bAt_ge {s : ByteArray} {j : Nat} (h : s.size ≤ j) : bAt s j = none := by unfold bAt; rw [dif_neg (by omega)]
theorem bAt_some {s : ByteArray} {j : Nat} {c : UInt8} (h : bAt s j = some c) : ∃ hj : j < s.size, s[j] = c := by
  by_cases hj : j < s.size
  · rw [bAt_lt hj, Option.some.injEq] at h; exact ⟨hj, h⟩
  · rw [bAt_ge (by omega)] at h; exact absurd h (by simp)
theorem bAt_left {s t : ByteArray} {j : Nat} (h : j < s.size) : bAt (s ++ t) j = bAt s j := by
  rw [bAt_lt (by rw [ByteArray.size_append]; omega), bAt_lt h, ByteArray.getElem_append_left h]
theorem bAt_right {s t : ByteArray} {i j : Nat} (h : i = s.size + j) : bAt (s ++ t) i = bAt t j := by
  subst h
  by_cases hj : j < t.size
  · rw [bAt_lt (by rw [ByteArray.size_append]; omega), bAt_lt hj, ByteArray.getElem_append_right (by omega)]
    congr 2; omega
  · rw [bAt_ge (by rw [ByteArray.size_append]; omega), bAt_ge (by omega)]
theorem bAt_ext {a b : ByteArray} (h : a.size = b.size) (h2 : ∀ j, j < a.size → bAt a j = bAt b j) : a = b := by
  apply ByteArray.ext
  apply Array.ext (by exact h)
  intro i h1 h3
  have h1' : i < a.size := h1
  have := h2 i h1'
  rw [bAt_lt h1', bAt_lt (h ▸ h1'), Option.some.injEq] at this
  simpa [ByteArray.getElem_eq_getElem_data] using this
theorem bAt_sub {s : ByteArray} {i e j : Nat} (he : e ≤ s.size) (h : j < e - i) : bAt (s.extract i e) j = bAt s (i + j) := by
  have hz : (s.extract i e).size = e - i := by rw [ByteArray.size_extract]; omega
  rw [bAt_lt (by omega), bAt_lt (by omega), ext_get]

/-- A byte that makes no token before it longer. -/
def stopB (c : UInt8) : Bool := !isWord c && decide (c ≠ 61) && decide (c ≠ 38) && decide (c ≠ 124) && decide (c ≠ 35)
theorem stopB_word {c : UInt8} (h : stopB c = true) : isWord c = false := by
  unfold stopB at h
  simp only [Bool.and_eq_true] at h
  simpa using h.1.1.1.1
/-- The byte behind a token does not make it longer. -/
def Ends (s' : ByteArray) (k' : Nat) (s : ByteArray) (k : Nat) : Prop := bAt s' k' = bAt s k ∨ ∀ c, bAt s' k' = some c → stopB c = true
theorem ends_space {s' : ByteArray} {k' : Nat} {s : ByteArray} {k : Nat} (h : bAt s' k' = some 32) : Ends s' k' s k := .inr fun c hc => by
  rw [h, Option.some.injEq] at hc; subst hc; decide
theorem ends_none {s' : ByteArray} {k' : Nat} {s : ByteArray} {k : Nat} (h : bAt s' k' = none) : Ends s' k' s k := .inr fun c hc => by
  rw [h] at hc; exact absurd hc (by simp)
theorem wEnd_same {s s' : ByteArray} : ∀ (d k k' : Nat), wEnd s k = k + d → (∀ j, j < d → bAt s' (k' + j) = bAt s (k + j)) → Ends s' (k' + d) s (k + d) → wEnd s' k' = k' + d
  | 0, k, k', h, _, hE => by
    have hstop : ∀ c, bAt s k = some c → isWord c = false := fun c hc => by
      obtain ⟨hk, rfl⟩ := bAt_some hc
      cases hw : isWord s[k]
      · rfl
      · rw [wEnd_in hk hw] at h
        have := (wEnd_bounds s (k + 1)).1
        omega
    by_cases hk' : k' < s'.size
    · rcases hE with h1 | h1
      · rw [Nat.add_zero, Nat.add_zero, bAt_lt hk'] at h1
        exact wEnd_stop hk' (hstop _ h1.symm)
      · exact wEnd_stop hk' (stopB_word (h1 _ (bAt_lt hk')))
    · exact wEnd_out (by omega)
  | d + 1, k, k', h, hb, hE => by
    have hk : k < s.size := by
      apply Nat.lt_of_not_le; intro hn
      rw [wEnd_out hn] at h; omega
    have hw : isWord s[k] = true := by
      cases hw : isWord s[k]
      · rw [wEnd_stop hk hw] at h; omega
      · rfl
    rw [wEnd_in hk hw] at h
    have h0 := hb 0 (by omega)
    rw [Nat.add_zero, Nat.add_zero, bAt_lt hk] at h0
    obtain ⟨hk', he⟩ := bAt_some h0
    rw [wEnd_in hk' (by rw [he]; exact hw)]
    have e1 : k' + (d + 1) = k' + 1 + d := by omega
    have e2 : k + (d + 1) = k + 1 + d := by omega
    rw [e1]
    refine wEnd_same (s := s) (s' := s') d (k + 1) (k' + 1) (by omega) (fun j hj => ?_) (by rw [← e1, ← e2]; exact hE)
    have := hb (j + 1) (by omega)
    rwa [show k' + (j + 1) = k' + 1 + j by omega, show k + (j + 1) = k + 1 + j by omega] at this
theorem tClose_same {s s' : ByteArray} (d : Nat) : ∀ (k k' : Nat), tClose s k = some (k + d) → (∀ j, j < d → bAt s' (k' + j) = bAt s (k + j)) → tClose s' k' = some (k' + d) := by
  induction d using Nat.strongRecOn with
  | ind d ih =>
    intro k k' h hb
    have hs := tClose_some h
    have hk : k < s.size := by omega
    have h0 := hb 0 (by omega)
    rw [Nat.add_zero, Nat.add_zero, bAt_lt hk] at h0
    obtain ⟨hk', he⟩ := bAt_some h0
    by_cases h34 : s[k].toNat = 34
    · rw [tClose_quote hk h34, Option.some.injEq] at h
      rw [tClose_quote hk' (by rw [he]; exact h34)]
      congr 1; omega
    · by_cases h92 : s[k].toNat = 92
      · rw [tClose_back hk h92] at h
        have hs2 := tClose_some h
        rw [tClose_back hk' (by rw [he]; exact h92)]
        have := ih (d - 2) (by omega) (k + 2) (k' + 2) (by rw [h]; congr 1; omega) (fun j hj => by
          have := hb (j + 2) (by omega)
          rwa [show k' + (j + 2) = k' + 2 + j by omega, show k + (j + 2) = k + 2 + j by omega] at this)
        rw [this]; congr 1; omega
      · rw [tClose_else hk h34 h92] at h
        have hs2 := tClose_some h
        rw [tClose_else hk' (by rw [he]; exact h34) (by rw [he]; exact h92)]
        have := ih (d - 1) (by omega) (k + 1) (k' + 1) (by rw [h]; congr 1; omega) (fun j hj => by
          have := hb (j + 1) (by omega)
          rwa [show k' + (j + 1) = k' + 1 + j by omega, show k + (j + 1) = k + 1 + j by omega] at this)
        rw [this]; congr 1; omega
theorem two_bAt (s : ByteArray) (k : Nat) (a b : UInt8) : two s k a b = (decide (bAt s k = some a) && decide (bAt s (k + 1) = some b)) := by
  have hd : ∀ j, s.data.toList[j]? = bAt s j := fun j => by
    by_cases hj : j < s.size
    · rw [bAt_lt hj, List.getElem?_eq_getElem (by simpa using hj)]; simp [ByteArray.getElem_eq_getElem_data]
    · rw [bAt_ge (by omega), List.getElem?_eq_none (by simpa using hj)]
  have hx : ∀ L : List UInt8, [a, b].isPrefixOf L = (decide (L[0]? = some a) && decide (L[1]? = some b)) := fun L => by
    match L with
    | [] => simp [List.isPrefixOf]
    | [x] => simp [List.isPrefixOf]
    | x :: y :: L =>
      have e : ∀ u v : UInt8, (u == v) = decide (v = u) := fun u v => by
        by_cases h : v = u
        · subst h; simp
        · have h' : ¬ u = v := fun e => h e.symm
          simp [h, h']
      simp [List.isPrefixOf, e]
  unfold two
  rw [hx, List.getElem?_drop, List.getElem?_drop, hd, hd, Nat.add_zero]
theorem twoAt_same {s s' : ByteArray} {k k' : Nat} (h0 : bAt s' k' = bAt s k) (h1 : bAt s' (k' + 1) = bAt s (k + 1)) : twoAt s' k' = twoAt s k := by
  unfold twoAt; simp only [two_bAt, h0, h1]
theorem twoAt_no {s : ByteArray} {k : Nat} (h : ∀ c, bAt s (k + 1) = some c → stopB c = true) : twoAt s k = false := by
  unfold twoAt; simp only [two_bAt]
  cases hb : bAt s (k + 1) with
  | none => simp
  | some c =>
    have := h c hb
    unfold stopB at this
    simp only [Bool.and_eq_true, decide_eq_true_eq] at this
    obtain ⟨⟨⟨⟨_, h1⟩, h2⟩, h3⟩, h4⟩ := this
    simp [h1, h2, h3, h4]
theorem mLen_same {s s' : ByteArray} {k k' d : Nat} (h : mLen s k = d) (h0 : d ≠ 0) (hb : ∀ j, j < d → bAt s' (k' + j) = bAt s (k + j)) (hE : Ends s' (k' + d) s (k + d)) : mLen s' k' = d := by
  have b0 := hb 0 (by omega)
  rw [Nat.add_zero, Nat.add_zero] at b0
  cases ht : twoAt s k
  · have hk : k < s.size := by
      apply Nat.lt_of_not_le; intro hn
      unfold mLen at h; rw [if_neg (by simp [ht]), dif_neg (by omega)] at h; omega
    unfold mLen at h
    rw [if_neg (by simp [ht]), dif_pos hk] at h
    have hm : s[k] ∈ marks1 := by
      apply Classical.byContradiction; intro hn
      rw [if_neg hn] at h; omega
    rw [if_pos hm] at h
    subst h
    have ht' : twoAt s' k' = false := by
      rcases hE with h1 | h1
      · rw [twoAt_same b0 h1, ht]
      · exact twoAt_no h1
    rw [bAt_lt hk] at b0
    obtain ⟨hk', he⟩ := bAt_some b0
    unfold mLen
    rw [if_neg (by simp [ht']), dif_pos hk', if_pos (by rw [he]; exact hm)]
  · unfold mLen at h
    rw [if_pos ht] at h
    subst h
    have b1 := hb 1 (by omega)
    unfold mLen
    rw [if_pos (by rw [twoAt_same b0 b1]; exact ht)]
/-- Where a token ends depends on no byte but those of it and the next one. -/
theorem cut_same {s s' : ByteArray} {k k' d : Nat} (h : cutEnd s k = (k + d : Nat)) (hb : ∀ j, j < d → bAt s' (k' + j) = bAt s (k + j)) (hE : Ends s' (k' + d) s (k + d)) : cutEnd s' k' = (k' + d : Nat) := by
  have hr := cutEnd_room (s := s) (k := k) (by omega)
  have hk : k < s.size := hr.2.2
  have hd0 : 0 < d := by omega
  have b0 := hb 0 (by omega)
  rw [Nat.add_zero, Nat.add_zero, bAt_lt hk] at b0
  obtain ⟨hk', he⟩ := bAt_some b0
  cases hw : isWord s[k]
  · by_cases hq : s[k].toNat = 34
    · rw [cutEnd_text hk hw hq] at h
      cases hc : tClose s (k + 1) with
      | none => rw [hc] at h; simp only at h; omega
      | some e =>
        rw [hc] at h
        replace h : (e : Int) = (k + d : Nat) := h
        have := tClose_same (s := s) (s' := s') (d - 1) (k + 1) (k' + 1) (by rw [hc]; congr 1; omega) (fun j hj => by
          have := hb (j + 1) (by omega)
          rwa [show k' + (j + 1) = k' + 1 + j by omega, show k + (j + 1) = k + 1 + j by omega] at this)
        rw [cutEnd_text hk' (by rw [he]; exact hw) (by rw [he]; exact hq), this]
        simp only; omega
    · rw [cutEnd_mark hk hw hq] at h
      split at h
      · omega
      · rename_i h0
        have := mLen_same (s := s) (s' := s') (k := k) (k' := k') (d := d) (by omega) (by omega) hb hE
        rw [cutEnd_mark hk' (by rw [he]; exact hw) (by rw [he]; exact hq), this, if_neg (by omega)]
  · rw [cutEnd_word hk hw] at h
    split at h
    · omega
    · rename_i h0
      have := wEnd_same (s := s) (s' := s') d k k' (by omega) hb hE
      rw [cutEnd_word hk' (by rw [he]; exact hw), this, if_neg (by omega)]

theorem first_cut {z : ByteArray} {t : Tok} {ts : List Tok} (h : toks z 0 false 0 = some (t :: ts)) (h0 : 0 < z.size) (h32 : ¬ z[0].toNat = 32) : cutEnd z 0 = (t.text.size : Nat) := by
  rw [toks, dif_pos h0, if_neg h32] at h
  split at h
  · simp at h
  · rename_i hb
    rw [Option.map_eq_some_iff] at h
    obtain ⟨l', _, h2⟩ := h
    simp only [List.cons.injEq] at h2
    have hr := cutEnd_room (s := z) (k := 0) (by omega)
    rw [← h2.1]
    show _ = ((z.extract 0 (cutEnd z 0).toNat).size : Int)
    rw [ByteArray.size_extract]; omega
/-- A valid token's text runs to its own end. -/
theorem tokOk_cut {t : Tok} (h : tokOk t = true) : ∃ h0 : 0 < t.text.size, t.text[0].toNat ≠ 32 ∧ cutEnd t.text 0 = (t.text.size : Nat) ∧ lineOk t.text = true := by
  unfold tokOk at h
  rw [Bool.and_eq_true] at h
  obtain ⟨u, hr, _, hx⟩ := oneTok_res h.1
  obtain ⟨h1, _⟩ := tokRes_head t.text u (by rw [hr]; simp)
  obtain ⟨h2, h3⟩ := tokRes_true hr
  have h0 : 0 < t.text.size := by rw [← hx]; exact h1
  have h32 : ¬ t.text[0].toNat = 32 := by
    intro h32
    rw [toks, dif_pos h0, if_pos h32] at h2
    have := toks_fit t.text 1 true 0 _ h2 (by omega) u (by simp)
    rw [hx] at this
    omega
  refine ⟨h0, h32, ?_, h3⟩
  have := first_cut h2 h0 h32
  rw [hx] at this
  exact this
/-- .. and, if no space is needed, not into the next one's. -/
theorem glued_cut {a b : Tok} (ha : tokOk a = true) (hg : glued a.text b.text = false) : cutEnd (a.text ++ b.text) 0 = (a.text.size : Nat) := by
  obtain ⟨h0, h32, _, _⟩ := tokOk_cut ha
  unfold glued at hg
  rw [Bool.or_eq_false_iff] at hg
  have h1 : readsTwo a.text b.text = true := by simpa using hg.1
  unfold readsTwo at h1
  rw [Bool.and_eq_true, decide_eq_true_eq] at h1
  obtain ⟨h2, h3⟩ := h1
  rcases hr : tokRes (a.text ++ b.text) with ⟨l, ok⟩
  rw [hr] at h2 h3
  simp only at h2 h3
  subst h2
  match l, h3 with
  | t :: ts, h3 =>
    simp only [List.map_cons, List.cons.injEq] at h3
    have hz : 0 < (a.text ++ b.text).size := by rw [ByteArray.size_append]; omega
    have := first_cut (tokRes_true hr).1 hz (by rw [ByteArray.getElem_append_left h0]; exact h32)
    rw [h3.1] at this
    exact this

theorem prTo_mono (l : List Tok) (i : Nat) : ∀ m p, p < (prTo l i).size → bAt (prTo l (i + m)) p = bAt (prTo l i) p
  | 0, p, _ => rfl
  | m + 1, p, h => by
    have ih := prTo_mono l i m p h
    have hp : p < (prTo l (i + m)).size := by
      rw [bAt_lt h] at ih
      exact (bAt_some ih).1
    rw [← ih, ← Nat.add_assoc]
    show bAt ((if gap l (i + m) = true then prTo l (i + m) ++ ⟨#[32]⟩ else prTo l (i + m)) ++ _) p = _
    split
    · rw [bAt_left (by rw [ByteArray.size_append]; omega), bAt_left hp]
    · rw [bAt_left hp]

/-- Where the token i begins. -/
def posOf (l : List Tok) (i : Nat) : Nat := (prTo l i).size + (if gap l i = true then 1 else 0)
theorem one32 : (⟨#[32]⟩ : ByteArray).size = 1 := rfl
theorem pos_end {l : List Tok} {i : Nat} (hi : i < l.length) : (prTo l (i + 1)).size = posOf l i + l[i].text.size := by
  unfold posOf
  cases hg : gap l i
  · rw [prTo_no hi hg, ByteArray.size_append, if_neg (by simp)]; omega
  · rw [prTo_yes hi hg, ByteArray.size_append, ByteArray.size_append, one32, if_pos rfl]
theorem pos_text {l : List Tok} {i : Nat} (hi : i < l.length) {m : Nat} (hm : i + 1 ≤ m) {j : Nat} (hj : j < l[i].text.size) : bAt (prTo l m) (posOf l i + j) = bAt l[i].text j := by
  obtain ⟨r, rfl⟩ := Nat.exists_eq_add_of_le hm
  rw [prTo_mono l (i + 1) r _ (by rw [pos_end hi]; omega)]
  unfold posOf
  cases hg : gap l i
  · rw [prTo_no hi hg, if_neg (by simp)]
    exact bAt_right (by omega)
  · rw [prTo_yes hi hg, if_pos rfl]
    exact bAt_right (by rw [ByteArray.size_append, one32])
theorem pos_gap {l : List Tok} {i : Nat} (hi : i < l.length) {m : Nat} (hm : i + 1 ≤ m) (hg : gap l i = true) : bAt (prTo l m) (prTo l i).size = some 32 := by
  obtain ⟨r, rfl⟩ := Nat.exists_eq_add_of_le hm
  have hs := pos_end hi
  unfold posOf at hs
  rw [if_pos hg] at hs
  rw [prTo_mono l (i + 1) r _ (by omega), prTo_yes hi hg, bAt_left (by rw [ByteArray.size_append, one32]; omega), bAt_right (i := (prTo l i).size) (j := 0) (by omega)]
  rfl
/-- Each token is cut out of the printed line again. -/
theorem pos_cut {l : List Tok} (h : toksOk l = true) {i : Nat} (hi : i < l.length) : cutEnd (prTo l l.length) (posOf l i) = (posOf l i + l[i].text.size : Nat) := by
  obtain ⟨h0, _, hc, _⟩ := tokOk_cut ((toksOk_facts h).2 i hi)
  by_cases hn : i + 1 < l.length
  · cases hg : gap l (i + 1)
    · have hgl : glued l[i].text l[i + 1].text = false := by
        unfold gap at hg
        rw [dif_pos ⟨by omega, hn⟩, Bool.or_eq_false_iff] at hg
        exact hg.2
      have hc2 := glued_cut ((toksOk_facts h).2 i hi) hgl
      refine cut_same (s := l[i].text ++ l[i + 1].text) (k := 0) (by rw [hc2]; omega) (fun j hj => ?_) (.inl ?_)
      · rw [pos_text hi (by omega) hj, Nat.zero_add, bAt_left hj]
      · obtain ⟨h1, _⟩ := tokOk_cut ((toksOk_facts h).2 (i + 1) hn)
        have e : posOf l i + l[i].text.size = posOf l (i + 1) + 0 := by
          have := pos_end hi
          show _ = (prTo l (i + 1)).size + _ + 0
          rw [if_neg (by simp [hg]), this]
          rfl
        rw [e, pos_text hn (by omega) h1, Nat.zero_add, bAt_right (j := 0) (by omega)]
    · refine cut_same (s := l[i].text) (k := 0) (by rw [hc]; omega) (fun j hj => ?_) (ends_space ?_)
      · rw [pos_text hi (by omega) hj, Nat.zero_add]
      · rw [← pos_end hi]
        exact pos_gap hn (by omega) hg
  · refine cut_same (s := l[i].text) (k := 0) (by rw [hc]; omega) (fun j hj => ?_) (ends_none ?_)
    · rw [pos_text hi (by omega) hj, Nat.zero_add]
    · rw [← pos_end hi]
      have e : i + 1 = l.length := by omega
      rw [e]
      exact bAt_ge (Nat.le_refl _)
/-- The tokens as they are read back: a gap is a space before them. -/
def readBack (l : List Tok) : List Tok := l.mapIdx fun i t => ⟨t.kind, t.text, gap l i, []⟩
theorem readBack_len (l : List Tok) : (readBack l).length = l.length := by simp [readBack]
theorem readBack_get (l : List Tok) (i : Nat) (h : i < (readBack l).length) : (readBack l)[i] = ⟨(l[i]'(by rw [readBack_len] at h; exact h)).kind, (l[i]'(by rw [readBack_len] at h; exact h)).text, gap l i, []⟩ := by simp [readBack]
theorem readBack_keys (l : List Tok) : (readBack l).map tKey = l.map tKey := by
  refine List.ext_getElem (by simp [readBack]) fun i h1 h2 => ?_
  simp [readBack, tKey]
theorem pos_all {l : List Tok} (h : toksOk l = true) : ∀ i, i ≤ l.length → AtT (prTo l l.length) (prTo l i).size false ((readBack l).take i)
  | 0, _ => AtT.zero _
  | i + 1, hi => by
    have hA := pos_all h i (by omega)
    have hi' : i < l.length := by omega
    obtain ⟨h0, h32, hc, _⟩ := tokOk_cut ((toksOk_facts h).2 i hi')
    have hh := (tokOk_facts ((toksOk_facts h).2 i hi')).1
    have hcut := pos_cut h hi'
    have hfirst := pos_text hi' (m := l.length) (by omega) h0
    rw [Nat.add_zero, bAt_lt h0] at hfirst
    obtain ⟨hp, hpe⟩ := bAt_some hfirst
    have hA' : AtT (prTo l l.length) (posOf l i) (gap l i) ((readBack l).take i) := by
      unfold posOf
      cases hg : gap l i
      · rw [if_neg (by simp)]; exact hA
      · have hb := pos_gap hi' (m := l.length) (by omega) hg
        obtain ⟨hb1, hb2⟩ := bAt_some hb
        rw [if_pos rfl]; exact hA.space hb1 (by rw [hb2]; rfl)
    have hol : ((readBack l).take i).length = i := by rw [List.length_take, readBack_len]; omega
    have hlen := (toksOk_facts h).1
    have hT := hA'.tok hp (by rw [hpe]; exact h32) hcut (by omega)
    have hx : (prTo l l.length).extract (posOf l i) (posOf l i + l[i].text.size) = l[i].text := by
      have hr := cutEnd_room (s := prTo l l.length) (k := posOf l i) (by rw [hcut]; omega)
      rw [hcut] at hr
      have hz : ((prTo l l.length).extract (posOf l i) (posOf l i + l[i].text.size)).size = l[i].text.size := by rw [ByteArray.size_extract]; omega
      refine bAt_ext hz fun j hj => ?_
      rw [bAt_sub (by omega) (by omega)]
      exact pos_text hi' (by omega) (by omega)
    have hir : i < (readBack l).length := by rw [readBack_len]; exact hi'
    obtain ⟨_, hkind⟩ := hh
    have e : (⟨cutKind (prTo l l.length)[posOf l i], (prTo l l.length).extract (posOf l i) (posOf l i + l[i].text.size), gap l i, []⟩ : Tok) = (readBack l)[i] := by
      rw [readBack_get, hx, hpe, ← hkind]
    rw [e, ← List.take_succ_eq_append_getElem hir] at hT
    rw [pos_end hi']
    exact hT

def AllOk (s : ByteArray) : Prop := ∀ j c, bAt s j = some c → okByte c = true
theorem AllOk.app {a b : ByteArray} (ha : AllOk a) (hb : AllOk b) : AllOk (a ++ b) := fun j c h => by
  by_cases hj : j < a.size
  · rw [bAt_left hj] at h; exact ha j c h
  · rw [bAt_right (j := j - a.size) (by omega)] at h; exact hb _ c h
theorem AllOk.of {s : ByteArray} (h : lineOk s = true) : AllOk s := fun j c hc => by
  obtain ⟨hj, rfl⟩ := bAt_some hc
  unfold lineOk at h
  rw [Bool.and_eq_true, List.all_eq_true] at h
  exact h.2 _ (by simp [ByteArray.getElem_eq_getElem_data])
theorem AllOk.line {s : ByteArray} (h : AllOk s) (hs : s.size ≤ 200) : lineOk s = true := by
  rw [lineOk_yes (k := s.size) (fun j hj _ => h j _ (bAt_lt hj)) (Nat.le_refl _)]
  exact decide_eq_true hs
theorem prTo_ok {l : List Tok} (h : toksOk l = true) : ∀ k, k ≤ l.length → AllOk (prTo l k)
  | 0, _ => fun j c hc => by
    obtain ⟨hj, _⟩ := bAt_some hc
    exact absurd hj (by show ¬ j < 0; omega)
  | k + 1, hk => by
    have ih := prTo_ok h k (by omega)
    have hx := AllOk.of (tokOk_cut ((toksOk_facts h).2 k (by omega))).2.2.2
    have h32 : AllOk ⟨#[32]⟩ := fun j c hc => by
      obtain ⟨hj, rfl⟩ := bAt_some hc
      have : j = 0 := by have : j < 1 := hj; omega
      subst this
      show okByte 32 = true
      decide
    cases hg : gap l k
    · rw [prTo_no (by omega) hg]; exact ih.app hx
    · rw [prTo_yes (by omega) hg]; exact (ih.app h32).app hx
/-- What is printed is read again. -/
theorem print_back {l : List Tok} (hv : toksOk l = true) (hl : (prTo l l.length).size ≤ 200) : tokRes (prTo l l.length) = (readBack l, true) := by
  have hA := pos_all hv l.length (Nat.le_refl _)
  rw [List.take_of_length_le (by rw [readBack_len]; exact Nat.le_refl _)] at hA
  exact tokRes_some ((prTo_ok hv _ (Nat.le_refl _)).line hl) (hA.done (Nat.le_refl _))
/-- .. the same kinds and texts, in order. -/
theorem print_reads {l : List Tok} {x : ByteArray} (h : printRes l = (x, true)) : ∃ out, tokRes x = (out, true) ∧ sameTx out l = true := by
  have hv : toksOk l = true := by
    cases hv : toksOk l
    · rw [printRes_no hv] at h; simp at h
    · rfl
  by_cases hl : 200 < (prTo l l.length).size
  · rw [printRes_long hv rfl hl] at h; simp at h
  · rw [printRes_yes hv rfl hl] at h
    simp only [Prod.mk.injEq, and_true] at h
    subst h
    refine ⟨_, print_back hv (by omega), ?_⟩
    unfold sameTx
    rw [readBack_keys]; simp

/-- A token that is cut out of a line is one by itself. -/
theorem sub_tok {s : ByteArray} (hs : lineOk s = true) {k e : Nat} (hk : k < s.size) (h32 : ¬ s[k].toNat = 32) (hc : cutEnd s k = (e : Nat)) (sp : Bool) : tokOk ⟨cutKind s[k], s.extract k e, sp, []⟩ = true := by
  have hr := cutEnd_room (s := s) (k := k) (by omega)
  have hz : (s.extract k e).size = e - k := by rw [ByteArray.size_extract]; omega
  have hb : ∀ j, j < e - k → bAt (s.extract k e) (0 + j) = bAt s (k + j) := fun j hj => by rw [Nat.zero_add]; exact bAt_sub (by omega) hj
  have hcx := cut_same (s' := s.extract k e) (k' := 0) (d := e - k) (by rw [hc]; omega) hb (ends_none (bAt_ge (by omega)))
  have h0 : 0 < (s.extract k e).size := by omega
  have hf : (s.extract k e)[0] = s[k] := ext_get s k e 0 h0
  have hl : lineOk (s.extract k e) = true := by
    refine AllOk.line (fun j c hj => ?_) (by have := lineOk_size hs; omega)
    obtain ⟨h1, _⟩ := bAt_some hj
    rw [bAt_sub (by omega) (by omega)] at hj
    exact AllOk.of hs _ c hj
  have ht : toks (s.extract k e) 0 false 0 = some [⟨cutKind s[k], s.extract k e, false, []⟩] := by
    have hzz : ((s.extract k e).extract 0 (e - k)).size = (s.extract k e).size := by rw [ByteArray.size_extract]; omega
    have hx : (s.extract k e).extract 0 (e - k) = s.extract k e := bAt_ext hzz fun j hj => by
      rw [bAt_sub (by omega) (by omega), Nat.zero_add]
    rw [toks, dif_pos h0, if_neg (by rw [hf]; exact h32), hcx, if_neg (by omega), Nat.zero_add, Int.toNat_natCast, Nat.max_eq_right (by omega), toks, dif_neg (by omega), hf, hx]
    rfl
  have hr := tokRes_some hl ht
  unfold tokOk
  rw [Bool.and_eq_true]
  refine ⟨?_, by show hidOk [] = true; decide⟩
  show oneTok (s.extract k e) (cutKind s[k]) = true
  simp [oneTok, hr]
theorem toks_valid {s : ByteArray} (hs : lineOk s = true) : ∀ (k : Nat) (sp : Bool) (n : Nat) (l : List Tok), toks s k sp n = some l → ∀ t ∈ l, tokOk t = true := by
  intro k sp n
  induction k, sp, n using toks.induct (s := s) with
  | case1 k sp n hk h32 ih =>
    intro l h
    rw [toks, dif_pos hk, if_pos h32] at h
    exact ih l h
  | case2 k sp n hk h32 hb =>
    intro l h
    rw [toks, dif_pos hk, if_neg h32, if_pos hb] at h
    exact absurd h (by simp)
  | case3 k sp n hk h32 hb ih =>
    intro l h t ht
    rw [toks, dif_pos hk, if_neg h32, if_neg hb] at h
    have hr := cutEnd_room (s := s) (k := k) (by omega)
    rw [Option.map_eq_some_iff] at h
    obtain ⟨l', h1, rfl⟩ := h
    rcases List.mem_cons.1 ht with rfl | ht
    · exact sub_tok hs hk h32 (by omega) sp
    · exact ih l' h1 t ht
  | case4 k sp n hk =>
    intro l h
    rw [toks, dif_neg hk] at h
    simp only [Option.some.injEq] at h
    subst h; simp
/-- Tokens of a line are valid. -/
theorem tokRes_valid {s : ByteArray} {l : List Tok} (h : tokRes s = (l, true)) : toksOk l = true := by
  obtain ⟨h1, h2⟩ := tokRes_true h
  have h3 := (tokRes_all s).1
  rw [h] at h3
  unfold toksOk
  rw [Bool.and_eq_true, decide_eq_true_eq, List.all_eq_true]
  exact ⟨h3, fun t ht => toks_valid h2 0 false 0 l h1 t ht⟩

end Go.Proofs.Ytigbaeokccknaaa
