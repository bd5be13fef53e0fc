/- Macros: their validity, their texts, and how they are read: no program. -/
import Derived.Test.YtigbaeokccknaaaPr6
namespace Go.Proofs.Ytigbaeokccknaaa
open Go.RowKit

structure DMacro where
  name : ByteArray
  function : Bool
  params : List ByteArray
  body : List Tok

def definedB : ByteArray := ⟨#[100, 101, 102, 105, 110, 101, 100]⟩
def hash1 : ByteArray := ⟨#[35]⟩
def hash2 : ByteArray := ⟨#[35, 35]⟩
def openB : ByteArray := ⟨#[40]⟩
def closeB : ByteArray := ⟨#[41]⟩
def commaB : ByteArray := ⟨#[44]⟩
/-- The number of the parameter that a token is, from k on, or -1. -/
def parFrom (ps : List ByteArray) (t : Tok) (k : Nat) : Int := if h : k < ps.length then (if t.kind = 1 ∧ ps[k] = t.text then (k : Int) else parFrom ps t (k + 1)) else -1
termination_by ps.length - k
def parOf (ps : List ByteArray) (t : Tok) : Int := parFrom ps t 0
theorem parFrom_key (ps : List ByteArray) {t u : Tok} (h1 : t.kind = u.kind) (h2 : t.text = u.text) (k : Nat) : parFrom ps t k = parFrom ps u k := by
  induction k using parFrom.induct (ps := ps) (t := t) with
  | case1 k h hc => rw [parFrom.eq_def ps t k, dif_pos h, if_pos hc, parFrom.eq_def ps u k, dif_pos h, if_pos (by rw [← h1, ← h2]; exact hc)]
  | case2 k h hc ih => rw [parFrom.eq_def ps t k, dif_pos h, if_neg hc, ih, parFrom.eq_def ps u k, dif_pos h, if_neg (by rw [← h1, ← h2]; exact hc)]
  | case3 k h => rw [parFrom.eq_def ps t k, dif_neg h, parFrom.eq_def ps u k, dif_neg h]

def macHead (m : DMacro) : Bool := oneTok m.name 1 && !decide (m.name = definedB) && decide (m.params.length ≤ 4) && (m.function || decide (m.params.length = 0)) && decide (m.body.length ≤ 20)
def parOk (ps : List ByteArray) (k : Nat) : Bool := if h : k < ps.length then oneTok ps[k] 1 && (List.range k).all (fun j => !decide (ps[j]? = some ps[k])) else true
def bodOk (m : DMacro) (k : Nat) : Bool :=
  if h : k < m.body.length then
    tokOk m.body[k] && decide (m.body[k].hidden.length = 0) && !(decide (k = 0) && m.body[k].spaced) &&
    !(decide (m.body[k].text = hash2) && (decide (k = 0) || decide (k + 1 = m.body.length) || decide ((m.body[k - 1]'(by omega)).text = hash2))) &&
    !(m.function && decide (m.body[k].text = hash1) && (if h2 : k + 1 < m.body.length then decide (parOf m.params m.body[k + 1] < 0) else true))
  else true
def macOk (m : DMacro) : Bool := macHead m && (List.range m.params.length).all (parOk m.params) && (List.range m.body.length).all (bodOk m)

/-- The head of a macro's text, up to the parameter k. -/
def hdTo (m : DMacro) : Nat → ByteArray
  | 0 => m.name ++ openB
  | k + 1 => (if 0 < k then hdTo m k ++ commaB else hdTo m k) ++ (if h : k < m.params.length then m.params[k] else ⟨#[]⟩)
def headOf (m : DMacro) : ByteArray := if m.function = true then hdTo m m.params.length ++ closeB else m.name
def macOut (m : DMacro) : ByteArray := if 0 < m.body.length then headOf m ++ ⟨#[32]⟩ ++ (printRes m.body).1 else headOf m
def macText (m : DMacro) : ByteArray × Bool := if macOk m = true then (if (printRes m.body).2 = false ∨ 200 < (macOut m).size then (⟨#[]⟩, false) else (macOut m, true)) else (⟨#[]⟩, false)

/-- The names of parameters from a place on, and where the body begins. -/
def parsAt (l : List Tok) (k : Nat) : Option (List ByteArray × Nat) :=
  if h : k + 1 < l.length then
    (if l[k].kind = 1 then (if l[k + 1].text = closeB then some ([l[k].text], k + 2) else if l[k + 1].text = commaB then (parsAt l (k + 2)).map (fun p => (l[k].text :: p.1, p.2)) else none) else none)
  else none
termination_by l.length - k
def parsOf (l : List Tok) : Option (List ByteArray × Nat) := if h : 2 < l.length then (if l[2].text = closeB ∧ l[2].kind = 4 then some ([], 3) else parsAt l 2) else none
/-- A body as it is read: nothing hidden, the first one not Spaced. -/
def bodyFrom (l : List Tok) (k : Nat) : List Tok := (l.drop k).mapIdx fun i t => ⟨t.kind, t.text, t.spaced && decide (0 < i), []⟩
def zeroMac : DMacro := ⟨⟨#[]⟩, false, [], []⟩
def macChk (m : DMacro) : DMacro × Bool := if macOk m = true then (m, true) else (zeroMac, false)
/-- Whether the second token opens parameters. -/
def opens2 (l : List Tok) : Bool := if h : 1 < l.length then decide (l[1].text = openB) && !l[1].spaced else false
def macOf (l : List Tok) : DMacro × Bool :=
  if h : toksOk l = true ∧ 0 < l.length then
    (if opens2 l = true then (match parsOf l with | some p => macChk ⟨l[0].text, true, p.1, bodyFrom l p.2⟩ | none => (zeroMac, false))
     else macChk ⟨l[0].text, false, [], bodyFrom l 1⟩)
  else (zeroMac, false)

/-! ### Valid macros -/
theorem macOk_facts {m : DMacro} (h : macOk m = true) : (oneTok m.name 1 = true ∧ m.name ≠ definedB ∧ m.params.length ≤ 4 ∧ (m.function = true ∨ m.params = []) ∧ m.body.length ≤ 20) ∧ (∀ k, (hk : k < m.params.length) → oneTok m.params[k] 1 = true) ∧ (∀ k, k < m.body.length → bodOk m k = true) := by
  unfold macOk macHead at h
  simp only [Bool.and_eq_true, Bool.not_eq_true', decide_eq_false_iff_not, decide_eq_true_eq, Bool.or_eq_true, List.all_eq_true, List.mem_range, List.length_eq_zero_iff] at h
  obtain ⟨⟨⟨⟨⟨⟨h1, h2⟩, h3⟩, h4⟩, h5⟩, h6⟩, h7⟩ := h
  refine ⟨⟨h1, h2, h3, h4, h5⟩, fun k hk => ?_, h7⟩
  have := h6 k hk
  unfold parOk at this
  rw [dif_pos hk, Bool.and_eq_true] at this
  exact this.1
theorem bodOk_facts {m : DMacro} {k : Nat} (hk : k < m.body.length) (h : bodOk m k = true) : tokOk m.body[k] = true ∧ m.body[k].hidden = [] ∧ (k = 0 → m.body[k].spaced = false) := by
  unfold bodOk at h
  rw [dif_pos hk] at h
  simp only [Bool.and_eq_true, decide_eq_true_eq, List.length_eq_zero_iff, Bool.not_eq_true', Bool.and_eq_false_iff, decide_eq_false_iff_not] at h
  obtain ⟨⟨⟨⟨h1, h2⟩, h3⟩, _⟩, _⟩ := h
  exact ⟨h1, h2, fun h => h3.resolve_left (fun h' => h' h)⟩
theorem tokOk_bare {t : Tok} (h : tokOk t = true) (sp : Bool) : tokOk ⟨t.kind, t.text, sp, []⟩ = true := by
  unfold tokOk at h ⊢
  rw [Bool.and_eq_true] at h ⊢
  exact ⟨h.1, by show hidOk [] = true; decide⟩
/-- Only the kinds and texts of a body count. -/
theorem macOk_keys {m : DMacro} {b : List Tok} (h : macOk m = true) (hl : b.length = m.body.length) (hk : ∀ k, (h1 : k < b.length) → (h2 : k < m.body.length) → b[k].kind = m.body[k].kind ∧ b[k].text = m.body[k].text ∧ b[k].hidden = [] ∧ (k = 0 → b[k].spaced = false)) :
    macOk ⟨m.name, m.function, m.params, b⟩ = true := by
  have hF := macOk_facts h
  unfold macOk at h ⊢
  rw [Bool.and_eq_true] at h ⊢
  refine ⟨?_, ?_⟩
  · have h1 := h.1
    unfold macHead at h1 ⊢
    simp only [hl] at h1 ⊢
    exact h1
  · rw [List.all_eq_true]
    intro k hkm
    rw [List.mem_range] at hkm
    have hkb : k < m.body.length := by simpa [hl] using hkm
    have hkb' : k < b.length := by omega
    have hB := hF.2.2 k hkb
    have hf := bodOk_facts hkb hB
    obtain ⟨e1, e2, e3, e4⟩ := hk k hkb' hkb
    have ht : tokOk b[k] = true := by
      have := tokOk_bare hf.1 b[k].spaced
      rw [← e1, ← e2, ← e3] at this
      exact this
    unfold bodOk at hB ⊢
    rw [dif_pos hkb] at hB
    rw [dif_pos (show k < (⟨m.name, m.function, m.params, b⟩ : DMacro).body.length from hkb')]
    simp only [ht, e2, e3, hl, List.length_nil, decide_true, Bool.true_and]
    simp only [hf.1, hf.2.1, List.length_nil, decide_true, Bool.true_and] at hB
    have e5 : (decide (k = 0) && b[k].spaced) = false := by
      by_cases h0 : k = 0
      · rw [e4 h0, Bool.and_false]
      · simp [h0]
    have e6 : (b[k - 1]'(by omega)).text = (m.body[k - 1]'(by omega)).text := (hk (k - 1) (by omega) (by omega)).2.1
    rw [e5, e6]
    rw [Bool.and_eq_true, Bool.and_eq_true] at hB
    rw [Bool.and_eq_true, Bool.and_eq_true]
    refine ⟨⟨by simp, hB.1.2⟩, ?_⟩
    have h2 := hB.2
    by_cases h3 : k + 1 < m.body.length
    · rw [dif_pos h3] at h2
      obtain ⟨g1, g2, _, _⟩ := hk (k + 1) (by omega) h3
      have e7 : parOf m.params (b[k + 1]'(by omega)) = parOf m.params m.body[k + 1] := parFrom_key _ g1 g2 0
      rw [dif_pos h3, e7]
      exact h2
    · rw [dif_neg h3] at h2 ⊢
      exact h2

end Go.Proofs.Ytigbaeokccknaaa
