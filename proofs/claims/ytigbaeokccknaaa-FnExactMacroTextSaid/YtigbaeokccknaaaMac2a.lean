/- Valid macros, part by part, as both sides ask for them: no program. -/
import Derived.Test.YtigbaeokccknaaaMac1
namespace Go.Proofs.Ytigbaeokccknaaa
open Go.RowKit

/-- A text beside a literal. -/
theorem txt_dec (x : ByteArray) (l : List UInt8) : (x.toList == l) = decide (x = ⟨l.toArray⟩) := by
  rw [ByteArray.toList_eq]
  by_cases h : x = ⟨l.toArray⟩
  · subst h; simp
  · rw [decide_eq_false h, beq_eq_false_iff_ne]
    intro e
    apply h
    rw [← e]
theorem txt_t {x : ByteArray} {l : List UInt8} (h : x = ⟨l.toArray⟩) : (x.toList == l) = true := by rw [txt_dec, decide_eq_true h]
theorem txt_f {x : ByteArray} {l : List UInt8} (h : x ≠ ⟨l.toArray⟩) : (x.toList == l) = false := by rw [txt_dec, decide_eq_false h]

/-! ### Parameters -/
def ParUpto (ps : List ByteArray) (k : Nat) : Prop := ∀ j, j < k → parOk ps j = true
theorem ParUpto.zero (ps : List ByteArray) : ParUpto ps 0 := by intro j h; omega
theorem ParUpto.succ {ps : List ByteArray} {k : Nat} (h : ParUpto ps k) (h1 : parOk ps k = true) : ParUpto ps (k + 1) := by
  intro j hj
  by_cases e : j = k
  · subst e; exact h1
  · exact h j (by omega)
/-- None of the first j parameters is the parameter k. -/
def NotUpto (ps : List ByteArray) (x : ByteArray) (j : Nat) : Prop := ∀ i, i < j → ps[i]? ≠ some x
theorem NotUpto.zero (ps : List ByteArray) (x : ByteArray) : NotUpto ps x 0 := by intro i h; omega
theorem NotUpto.succ {ps : List ByteArray} {x : ByteArray} {j : Nat} (h : NotUpto ps x j) (hj : j < ps.length) (hn : ps[j] ≠ x) : NotUpto ps x (j + 1) := by
  intro i hi
  by_cases e : i = j
  · subst e; rw [List.getElem?_eq_getElem hj]; intro h'; exact hn (Option.some.inj h')
  · exact h i (by omega)
theorem par_name {ps : List ByteArray} {k : Nat} (hk : k < ps.length) (h : oneTok ps[k] 1 = false) : parOk ps k = false := by unfold parOk; rw [dif_pos hk, h]; rfl
theorem par_twice {ps : List ByteArray} {k j : Nat} (hk : k < ps.length) (hj : j < k) (h : ps[j]'(by omega) = ps[k]) : parOk ps k = false := by
  unfold parOk
  rw [dif_pos hk]
  have : (List.range k).all (fun j => !decide (ps[j]? = some ps[k])) = false := by
    rw [List.all_eq_false]
    exact ⟨j, by simpa using hj, by simp [List.getElem?_eq_getElem (show j < ps.length by omega), h]⟩
  rw [this, Bool.and_false]
theorem par_yes {ps : List ByteArray} {k : Nat} (hk : k < ps.length) (h : oneTok ps[k] 1 = true) (hn : NotUpto ps ps[k] k) : parOk ps k = true := by
  unfold parOk
  rw [dif_pos hk, h, Bool.true_and, List.all_eq_true]
  intro j hj
  have := hn j (by simpa using hj)
  simp [this]

/-! ### The body -/
/-- What the program asks of the token k of a body, besides its being valid. -/
def bodI (b : List Tok) (k : Nat) : Bool :=
  if h : k < b.length then
    decide (b[k].hidden.length = 0) && !(decide (k = 0) && b[k].spaced) && !(decide (b[k].text = hash2) && (decide (k = 0) || decide (k + 1 = b.length) || decide ((b[k - 1]'(by omega)).text = hash2)))
  else true
/-- A text is among others. -/
def hasTx (ps : List ByteArray) (x : ByteArray) : Bool := ps.any fun p => decide (p = x)
theorem hasTx_iff {ps : List ByteArray} {x : ByteArray} : hasTx ps x = true ↔ x ∈ ps := by
  unfold hasTx
  rw [List.any_eq_true]
  exact ⟨fun ⟨p, h1, h2⟩ => by rw [← of_decide_eq_true h2]; exact h1, fun h => ⟨x, h, by simp⟩⟩
/-- # stands before a parameter. -/
def signS (m : DMacro) (k : Nat) : Bool := if h : k < m.body.length then !(decide (m.body[k].text = hash1) && (if h2 : k + 1 < m.body.length then decide (parOf m.params m.body[k + 1] < 0) else true)) else true
def signI (m : DMacro) (k : Nat) : Bool := if h : k < m.body.length then !(decide (m.body[k].text = hash1) && (if h2 : k + 1 < m.body.length then !hasTx m.params m.body[k + 1].text else true)) else true
theorem bodOk_split (m : DMacro) (k : Nat) (hk : k < m.body.length) : bodOk m k = (tokOk m.body[k] && bodI m.body k && (!m.function || signS m k)) := by
  unfold bodOk bodI signS
  rw [dif_pos hk, dif_pos hk, dif_pos hk]
  cases tokOk m.body[k] <;> cases decide (m.body[k].hidden.length = 0) <;> cases (decide (k = 0) && m.body[k].spaced) <;> cases m.function <;> simp
/-- The ways of the token k of a body. -/
theorem bodI_ways {b : List Tok} {k : Nat} (hk : k < b.length) :
    (b[k].hidden.length ≠ 0 ∧ Hid (bodI b k = false)) ∨
    (b[k].hidden.length = 0 ∧ k = 0 ∧ b[k].spaced = true ∧ Hid (bodI b k = false)) ∨
    (b[k].hidden.length = 0 ∧ k = 0 ∧ b[k].spaced = false ∧ b[k].text = hash2 ∧ Hid (bodI b k = false)) ∨
    (b[k].hidden.length = 0 ∧ k = 0 ∧ b[k].spaced = false ∧ b[k].text ≠ hash2 ∧ Hid (bodI b k = true)) ∨
    (b[k].hidden.length = 0 ∧ k ≠ 0 ∧ b[k].text = hash2 ∧ k + 1 = b.length ∧ Hid (bodI b k = false)) ∨
    (b[k].hidden.length = 0 ∧ k ≠ 0 ∧ b[k].text = hash2 ∧ k + 1 ≠ b.length ∧ (b[k - 1]'(by omega)).text = hash2 ∧ Hid (bodI b k = false)) ∨
    (b[k].hidden.length = 0 ∧ k ≠ 0 ∧ b[k].text = hash2 ∧ k + 1 ≠ b.length ∧ (b[k - 1]'(by omega)).text ≠ hash2 ∧ Hid (bodI b k = true)) ∨
    (b[k].hidden.length = 0 ∧ k ≠ 0 ∧ b[k].text ≠ hash2 ∧ Hid (bodI b k = true)) := by
  have e : bodI b k = (decide (b[k].hidden.length = 0) && !(decide (k = 0) && b[k].spaced) && !(decide (b[k].text = hash2) && (decide (k = 0) || decide (k + 1 = b.length) || decide ((b[k - 1]'(by omega)).text = hash2)))) := by
    unfold bodI; rw [dif_pos hk]
  by_cases h1 : b[k].hidden.length = 0
  · by_cases h2 : k = 0
    · subst h2
      cases h3 : b[0].spaced
      · by_cases h4 : b[0].text = hash2
        · exact .inr (.inr (.inl ⟨h1, rfl, rfl, h4, by show _ = _; rw [e, h3, decide_eq_true h4]; simp⟩))
        · exact .inr (.inr (.inr (.inl ⟨h1, rfl, rfl, h4, by show _ = _; rw [e, h3, decide_eq_true h1, decide_eq_false h4]; simp⟩)))
      · exact .inr (.inl ⟨h1, rfl, rfl, by show _ = _; rw [e, h3]; simp⟩)
    · by_cases h4 : b[k].text = hash2
      · by_cases h5 : k + 1 = b.length
        · exact .inr (.inr (.inr (.inr (.inl ⟨h1, h2, h4, h5, by show _ = _; rw [e]; simp [h4, h5]⟩))))
        · by_cases h6 : (b[k - 1]'(by omega)).text = hash2
          · exact .inr (.inr (.inr (.inr (.inr (.inl ⟨h1, h2, h4, h5, h6, by show _ = _; rw [e]; simp [h4, h6]⟩)))))
          · exact .inr (.inr (.inr (.inr (.inr (.inr (.inl ⟨h1, h2, h4, h5, h6, by show _ = _; rw [e]; simp [h1, h2, h5, h6]⟩))))))
      · exact .inr (.inr (.inr (.inr (.inr (.inr (.inr ⟨h1, h2, h4, by show _ = _; rw [e]; simp [h1, h2, h4]⟩))))))
  · exact .inl ⟨h1, by show _ = _; rw [e]; simp [h1]⟩
def BodUpto (p : Nat → Bool) (k : Nat) : Prop := ∀ j, j < k → p j = true
theorem BodUpto.zero (p : Nat → Bool) : BodUpto p 0 := by intro j h; omega
theorem BodUpto.succ {p : Nat → Bool} {k : Nat} (h : BodUpto p k) (h1 : p k = true) : BodUpto p (k + 1) := by
  intro j hj
  by_cases e : j = k
  · subst e; exact h1
  · exact h j (by omega)
theorem range_no {p : Nat → Bool} {n k : Nat} (hk : k < n) (h : p k = false) : (List.range n).all p = false := by
  rw [List.all_eq_false]; exact ⟨k, by simpa using hk, by simp [h]⟩
theorem range_yes {p : Nat → Bool} {n : Nat} (h : ∀ j, j < n → p j = true) : (List.range n).all p = true := by
  rw [List.all_eq_true]; intro j hj; exact h j (by simpa using hj)

theorem signS_other {m : DMacro} {k : Nat} (hk : k < m.body.length) (h : m.body[k].text ≠ hash1) : signS m k = true := by unfold signS; rw [dif_pos hk, decide_eq_false h]; rfl
theorem signS_last {m : DMacro} {k : Nat} (hk : k < m.body.length) (h : m.body[k].text = hash1) (hl : k + 1 = m.body.length) : signS m k = false := by unfold signS; rw [dif_pos hk, decide_eq_true h, dif_neg (by omega)]; rfl
theorem signS_no {m : DMacro} {k : Nat} (hk : k + 1 < m.body.length) (h : (m.body[k]'(by omega)).text = hash1) (hp : parOf m.params m.body[k + 1] < 0) : signS m k = false := by unfold signS; rw [dif_pos (by omega), decide_eq_true h, dif_pos hk, decide_eq_true hp]; rfl
theorem signS_yes {m : DMacro} {k : Nat} (hk : k + 1 < m.body.length) (h : (m.body[k]'(by omega)).text = hash1) (hp : ¬ parOf m.params m.body[k + 1] < 0) : signS m k = true := by unfold signS; rw [dif_pos (by omega), decide_eq_true h, dif_pos hk, decide_eq_false hp]; rfl

/-! ### Macros of the model -/
theorem macOk_head {m : DMacro} (h : macHead m = false) : macOk m = false := by unfold macOk; rw [h]; rfl
theorem macOk_par {m : DMacro} {k : Nat} (hk : k < m.params.length) (h : parOk m.params k = false) : macOk m = false := by unfold macOk; rw [range_no hk h]; simp
theorem macOk_bod {m : DMacro} {k : Nat} (hk : k < m.body.length) (h : bodOk m k = false) : macOk m = false := by unfold macOk; rw [range_no hk h]; simp
theorem macOk_yes {m : DMacro} (h : macHead m = true) (h1 : ParUpto m.params m.params.length) (h2 : BodUpto (bodOk m) m.body.length) : macOk m = true := by unfold macOk; rw [h, range_yes h1, range_yes h2]; rfl
/-- The ways of a macro's head. -/
theorem head_ways (m : DMacro) :
    (oneTok m.name 1 = false ∧ Hid (macOk m = false)) ∨
    (oneTok m.name 1 = true ∧ m.name = definedB ∧ Hid (macOk m = false)) ∨
    (oneTok m.name 1 = true ∧ m.name ≠ definedB ∧ 4 < m.params.length ∧ Hid (macOk m = false)) ∨
    (oneTok m.name 1 = true ∧ m.name ≠ definedB ∧ m.params.length ≤ 4 ∧ m.function = false ∧ 0 < m.params.length ∧ Hid (macOk m = false)) ∨
    (oneTok m.name 1 = true ∧ m.name ≠ definedB ∧ m.params.length ≤ 4 ∧ (m.function = true ∨ m.params.length = 0) ∧ 20 < m.body.length ∧ Hid (macOk m = false)) ∨
    (oneTok m.name 1 = true ∧ m.name ≠ definedB ∧ m.params.length ≤ 4 ∧ (m.function = true ∨ m.params.length = 0) ∧ m.body.length ≤ 20 ∧ Hid (macHead m = true)) := by
  have hd : macHead m = (oneTok m.name 1 && !decide (m.name = definedB) && decide (m.params.length ≤ 4) && (m.function || decide (m.params.length = 0)) && decide (m.body.length ≤ 20)) := rfl
  cases h1 : oneTok m.name 1
  · exact .inl ⟨rfl, macOk_head (by rw [hd, h1]; rfl)⟩
  by_cases h2 : m.name = definedB
  · exact .inr (.inl ⟨rfl, h2, macOk_head (by rw [hd, h1]; simp [h2])⟩)
  by_cases h3 : m.params.length ≤ 4
  · cases h4 : m.function
    · by_cases h5 : m.params.length = 0
      · by_cases h6 : m.body.length ≤ 20
        · exact .inr (.inr (.inr (.inr (.inr ⟨rfl, h2, h3, .inr h5, h6, by show _ = _; rw [hd, h1]; simp [h2, h5, h6]⟩))))
        · exact .inr (.inr (.inr (.inr (.inl ⟨rfl, h2, h3, .inr h5, by omega, macOk_head (by rw [hd]; simp [h6])⟩))))
      · exact .inr (.inr (.inr (.inl ⟨rfl, h2, h3, rfl, by omega, macOk_head (by rw [hd, h4]; simp [h5])⟩)))
    · by_cases h6 : m.body.length ≤ 20
      · exact .inr (.inr (.inr (.inr (.inr ⟨rfl, h2, h3, .inl rfl, h6, by show _ = _; rw [hd, h1, h4]; simp [h2, h3, h6]⟩))))
      · exact .inr (.inr (.inr (.inr (.inl ⟨rfl, h2, h3, .inl rfl, by omega, macOk_head (by rw [hd]; simp [h6])⟩))))
  · exact .inr (.inr (.inl ⟨rfl, h2, by omega, macOk_head (by rw [hd]; simp [h3])⟩))

/-! ### Macros of the program -/
def parsOk (ps : List ByteArray) : Bool := decide (ps.length ≤ 4) && (List.range ps.length).all (parOk ps)
def bodyOkI (b : List Tok) : Bool := decide (b.length ≤ 20) && toksOk b && (List.range b.length).all (bodI b)
def signsOk (m : DMacro) : Bool := (List.range m.body.length).all (signI m)
/-- A text is one token of one kind. -/
theorem one_kind {x : ByteArray} {k k' : Int} (h : oneTok x k = true) (h' : oneTok x k' = true) : k = k' := by
  rcases one_ways x k with ⟨_, H⟩ | ⟨_, _, _, H⟩ | ⟨_, _, _, H⟩ | ⟨_, _, _, _, H⟩ | ⟨t, hr, hk, _, _, _⟩
  · exact absurd (H.out.symm.trans h) (by simp)
  · exact absurd (H.out.symm.trans h) (by simp)
  · exact absurd (H.out.symm.trans h) (by simp)
  · exact absurd (H.out.symm.trans h) (by simp)
  · unfold oneTok at h'
    rw [hr] at h'
    simp at h'
    rw [← hk, ← h'.1]
theorem parFrom_neg {ps : List ByteArray} {t : Tok} (hk : t.kind = 1) (k : Nat) : parFrom ps t k < 0 ↔ t.text ∉ ps.drop k := by
  induction k using parFrom.induct (ps := ps) (t := t) with
  | case1 k h hc =>
    rw [parFrom, dif_pos h, if_pos hc, List.drop_eq_getElem_cons h]
    simp [hc.2]
  | case2 k h hc ih =>
    rw [parFrom, dif_pos h, if_neg hc, ih, List.drop_eq_getElem_cons h]
    have hn : ¬ t.text = ps[k] := fun e => hc ⟨hk, e.symm⟩
    rw [List.mem_cons, not_or]
    exact ⟨fun h => ⟨hn, h⟩, fun h => h.2⟩
  | case3 k h => rw [parFrom, dif_neg h, List.drop_eq_nil_iff.2 (by omega)]; simp
theorem parFrom_kind {ps : List ByteArray} {t : Tok} (hk : t.kind ≠ 1) (k : Nat) : parFrom ps t k < 0 := by
  induction k using parFrom.induct (ps := ps) (t := t) with
  | case1 k h hc => exact absurd hc.1 hk
  | case2 k h hc ih => rw [parFrom, dif_pos h, if_neg hc]; exact ih
  | case3 k h => rw [parFrom, dif_neg h]; omega
theorem sign_same {m : DMacro} (hp : ∀ k, (hk : k < m.params.length) → oneTok m.params[k] 1 = true) (hb : ∀ k, (hk : k < m.body.length) → tokOk m.body[k] = true) (k : Nat) : signI m k = signS m k := by
  unfold signI signS
  by_cases h : k < m.body.length
  · rw [dif_pos h, dif_pos h]
    by_cases h2 : k + 1 < m.body.length
    · rw [dif_pos h2, dif_pos h2]
      have e : (!hasTx m.params m.body[k + 1].text) = decide (parOf m.params m.body[k + 1] < 0) := by
        by_cases hk : m.body[k + 1].kind = 1
        · have := parFrom_neg (ps := m.params) hk 0
          rw [List.drop_zero] at this
          unfold parOf
          by_cases hm : m.body[k + 1].text ∈ m.params
          · have h3 : ¬ parFrom m.params m.body[k + 1] 0 < 0 := fun h => this.1 h hm
            rw [hasTx_iff.2 hm, decide_eq_false h3]; rfl
          · have h4 : hasTx m.params m.body[k + 1].text = false := by
              cases h : hasTx m.params m.body[k + 1].text
              · rfl
              · exact absurd (hasTx_iff.1 h) hm
            rw [h4, decide_eq_true (this.2 hm)]; rfl
        · have h3 := parFrom_kind (ps := m.params) hk 0
          have hm : m.body[k + 1].text ∉ m.params := fun hm => by
            obtain ⟨i, hi, he⟩ := List.getElem_of_mem hm
            have h4 := hp i hi
            rw [he] at h4
            have h5 := hb (k + 1) h2
            unfold tokOk at h5
            rw [Bool.and_eq_true] at h5
            exact hk (one_kind h5.1 h4)
          have h4 : hasTx m.params m.body[k + 1].text = false := by
            cases h : hasTx m.params m.body[k + 1].text
            · rfl
            · exact absurd (hasTx_iff.1 h) hm
          unfold parOf
          rw [h4, decide_eq_true h3]; rfl
      rw [e]
    · rw [dif_neg h2, dif_neg h2]
  · rw [dif_neg h, dif_neg h]
theorem all_and (n : Nat) (p q : Nat → Bool) : (List.range n).all (fun k => p k && q k) = ((List.range n).all p && (List.range n).all q) := by
  induction n with
  | zero => rfl
  | succ n ih =>
    simp only [List.range_succ, List.all_append, ih, List.all_cons, List.all_nil, Bool.and_true]
    cases (List.range n).all p <;> cases (List.range n).all q <;> cases p n <;> cases q n <;> rfl
theorem all_ext {n : Nat} {p q : Nat → Bool} (h : ∀ k, k < n → p k = q k) : (List.range n).all p = (List.range n).all q := by
  cases hq : (List.range n).all q
  · rw [List.all_eq_false] at hq
    obtain ⟨k, hk, h2⟩ := hq
    have hk' : k < n := by simpa using hk
    exact range_no hk' (by rw [h k hk']; simpa using h2)
  · rw [List.all_eq_true] at hq
    exact range_yes fun j hj => by rw [h j hj]; exact hq j (by simpa using hj)
theorem toks_range {b : List Tok} (h : b.length ≤ 20) : toksOk b = (List.range b.length).all (fun k => if h : k < b.length then tokOk b[k] else true) := by
  unfold toksOk
  rw [decide_eq_true (by omega : b.length ≤ 60), Bool.true_and]
  cases hr : (List.range b.length).all (fun k => if h : k < b.length then tokOk b[k] else true)
  · rw [List.all_eq_false] at hr ⊢
    obtain ⟨k, hk, h2⟩ := hr
    have hk' : k < b.length := by simpa using hk
    rw [dif_pos hk'] at h2
    exact ⟨b[k], List.getElem_mem hk', h2⟩
  · rw [List.all_eq_true] at hr ⊢
    intro t ht
    obtain ⟨i, hi, rfl⟩ := List.getElem_of_mem ht
    have := hr i (by simpa using hi)
    rw [dif_pos hi] at this
    exact this
/-- The program's question is the model's. -/
theorem mac_impl (m : DMacro) : macOk m = (oneTok m.name 1 && !decide (m.name = definedB) && (if m.function = true then parsOk m.params && bodyOkI m.body && signsOk m else decide (m.params.length = 0) && bodyOkI m.body)) := by
  have hd : macHead m = (oneTok m.name 1 && !decide (m.name = definedB) && decide (m.params.length ≤ 4) && (m.function || decide (m.params.length = 0)) && decide (m.body.length ≤ 20)) := rfl
  have hB : m.body.length ≤ 20 → (List.range m.body.length).all (bodOk m) = (toksOk m.body && (List.range m.body.length).all (bodI m.body) && (List.range m.body.length).all (fun k => !m.function || signS m k)) := by
    intro hl
    rw [toks_range hl, ← all_and, ← all_and]
    exact all_ext fun k hk => by rw [dif_pos hk]; exact bodOk_split m k hk
  unfold macOk
  rw [hd]
  by_cases hl : m.body.length ≤ 20
  · rw [hB hl, decide_eq_true hl]
    cases hf : m.function
    · rw [if_neg (by simp)]
      have e1 : (List.range m.body.length).all (fun k => !false || signS m k) = true := range_yes fun _ _ => rfl
      rw [e1]
      unfold bodyOkI
      rw [decide_eq_true hl]
      by_cases h0 : m.params.length = 0
      · rw [h0]
        simp
      · rw [decide_eq_false h0]; simp
    · rw [if_pos rfl]
      unfold parsOk bodyOkI signsOk
      rw [decide_eq_true hl]
      have e1 : (List.range m.body.length).all (fun k => !true || signS m k) = (List.range m.body.length).all (signS m) := all_ext fun _ _ => by simp
      rw [e1]
      cases hp : (List.range m.params.length).all (parOk m.params)
      · simp
      cases ht : toksOk m.body
      · simp
      have e2 : (List.range m.body.length).all (signI m) = (List.range m.body.length).all (signS m) := all_ext fun k _ => by
        refine sign_same (fun k hk => ?_) (fun k hk => ?_) k
        · rw [List.all_eq_true] at hp
          have := hp k (by simpa using hk)
          unfold parOk at this
          rw [dif_pos hk, Bool.and_eq_true] at this
          exact this.1
        · rw [toks_range hl, List.all_eq_true] at ht
          have := ht k (by simpa using hk)
          rw [dif_pos hk] at this
          exact this
      rw [e2]
      simp only [Bool.true_or, Bool.and_true, Bool.true_and, Bool.and_assoc]
  · have e1 : bodyOkI m.body = false := by unfold bodyOkI; rw [decide_eq_false hl]; rfl
    rw [decide_eq_false hl, e1]
    simp

end Go.Proofs.Ytigbaeokccknaaa
