/- TokenValid: no program. -/
import Derived.Test.YtigbaeokccknaaaTok0
import Derived.Laws.Cover1
namespace Go.Proofs.Ytigbaeokccknaaa
open Go.RowKit

theorem bytesLess_flip : ∀ (x y : List UInt8), Op.bytesLess x y = !(Op.bytesLess y x || y == x)
  | [], [] => rfl
  | _ :: _, [] => by simp [Op.bytesLess]
  | [], _ :: _ => by simp [Op.bytesLess]
  | a :: x, b :: y => by
    have ih := bytesLess_flip x y
    simp only [Op.bytesLess, ih]
    by_cases h : a = b
    · subst h
      have h1 : decide (a < a) = false := by simp [UInt8.lt_irrefl]
      rw [h1]
      cases hL : Op.bytesLess y x <;> by_cases hE : y = x <;> simp [hE]
    · have h2 : (a == b) = false := by simp [h]
      have h3 : (b == a) = false := by simp [Ne.symm h]
      have h4 : ((b :: y) == (a :: x)) = false := by simp [Ne.symm h]
      rw [h2, h3, h4]
      have : decide (a < b) = !decide (b < a) := by
        by_cases hl : a < b
        · have := UInt8.lt_asymm hl; simp [hl, this]
        · have : b < a := by
            rw [UInt8.lt_iff_toNat_lt] at hl ⊢
            have : a.toNat ≠ b.toNat := fun e => h (UInt8.toNat_inj.1 e)
            omega
          simp [hl, this]
      rw [this]; simp

/-- Texts in order. -/
def sLess (a b : ByteArray) : Bool := Op.bytesLess a.toList b.toList
theorem sLess_no {a b : ByteArray} (h : sLess a b = false) : (Op.bytesLess b.toList a.toList || b.toList == a.toList) = true := by
  unfold sLess at h; rw [bytesLess_flip] at h; cases hx : (Op.bytesLess b.toList a.toList || b.toList == a.toList)
  · rw [hx] at h; exact absurd h (by decide)
  · rfl
theorem sLess_yes {a b : ByteArray} (h : sLess a b = true) : (Op.bytesLess b.toList a.toList || b.toList == a.toList) = false := by
  unfold sLess at h; rw [bytesLess_flip] at h; simpa using h

/-- The first token begins where the line begins, or its text is shorter. -/
theorem toks_fit (s : ByteArray) : ∀ (k : Nat) (sp : Bool) (n : Nat) (l : List Tok), toks s k sp n = some l → k ≤ s.size → ∀ t ∈ l, t.text.size ≤ s.size - k := by
  intro k sp n
  induction k, sp, n using toks.induct (s := s) with
  | case1 k sp n hk h32 ih =>
    intro l h hks t ht
    rw [toks, dif_pos hk, if_pos h32] at h
    have := ih l h (by omega) t ht
    omega
  | case2 k sp n hk h32 hb =>
    intro l h hks t ht
    rw [toks, dif_pos hk, if_neg h32, if_pos hb] at h
    exact absurd h (by simp)
  | case3 k sp n hk h32 hb ih =>
    intro l h hks t ht
    rw [toks, dif_pos hk, if_neg h32, if_neg hb] at h
    have hr := cutEnd_room (s := s) (k := k) (by omega)
    rw [Option.map_eq_some_iff] at h
    obtain ⟨l', h1, rfl⟩ := h
    rcases List.mem_cons.1 ht with rfl | ht
    · show (s.extract k (cutEnd s k).toNat).size ≤ _; rw [ByteArray.size_extract]; omega
    · have := ih l' h1 (by omega) t ht
      omega
  | case4 k sp n hk =>
    intro l h hks t ht
    rw [toks, dif_neg hk] at h
    simp only [Option.some.injEq] at h
    subst h; simp at ht
theorem toks_first {s : ByteArray} {t : Tok} {l : List Tok} (h : toks s 0 false 0 = some (t :: l)) (ht : t.text = s) : t.spaced = false := by
  by_cases h0 : 0 < s.size
  · by_cases h32 : s[0].toNat = 32
    · rw [toks, dif_pos h0, if_pos h32] at h
      have := toks_fit s 1 true 0 _ h (by omega) t (by simp)
      rw [ht] at this
      omega
    · rw [toks, dif_pos h0, if_neg h32] at h
      split at h
      · simp at h
      · rw [Option.map_eq_some_iff] at h
        obtain ⟨l', _, h2⟩ := h
        simp only [List.cons.injEq] at h2
        rw [← h2.1]
  · rw [toks, dif_neg h0] at h; simp at h
theorem tokRes_true {s : ByteArray} {l : List Tok} (h : tokRes s = (l, true)) : toks s 0 false 0 = some l ∧ lineOk s = true := by
  unfold tokRes at h
  cases h0 : lineOk s
  · rw [h0, if_neg (by simp)] at h; simp at h
  · rw [h0, if_pos rfl] at h
    cases h1 : toks s 0 false 0 with
    | none => rw [h1] at h; simp at h
    | some l' => rw [h1] at h; simp at h; rw [h]; exact ⟨rfl, rfl⟩
theorem tokRes_false {s : ByteArray} {l : List Tok} (h : tokRes s = (l, false)) : l = [] := by
  unfold tokRes at h
  split at h
  · split at h
    · simp at h
    · simp at h; exact h
  · simp at h; exact h

/-- A text is one token of a kind. -/
def oneTok (x : ByteArray) (k : Int) : Bool := (tokRes x).2 && decide ((tokRes x).1.length = 1) && (tokRes x).1.all (fun t => decide (t.kind = k) && decide (t.text = x))
/-- The ways of a text. -/
theorem one_ways (x : ByteArray) (k : Int) :
    (tokRes x = ([], false) ∧ Hid (oneTok x k = false)) ∨
    (∃ l, tokRes x = (l, true) ∧ l.length ≠ 1 ∧ Hid (oneTok x k = false)) ∨
    (∃ t, tokRes x = ([t], true) ∧ t.kind ≠ k ∧ Hid (oneTok x k = false)) ∨
    (∃ t, tokRes x = ([t], true) ∧ t.kind = k ∧ t.text ≠ x ∧ Hid (oneTok x k = false)) ∨
    (∃ t, tokRes x = ([t], true) ∧ t.kind = k ∧ t.text = x ∧ t.spaced = false ∧ Hid (oneTok x k = true)) := by
  rcases hr : tokRes x with ⟨l, ok⟩
  cases ok
  · obtain rfl := tokRes_false hr
    exact .inl ⟨rfl, by simp [Hid, oneTok, hr]⟩
  · by_cases h1 : l.length = 1
    · obtain ⟨t, rfl⟩ := List.length_eq_one_iff.1 h1
      by_cases h2 : t.kind = k
      · by_cases h3 : t.text = x
        · exact .inr (.inr (.inr (.inr ⟨t, rfl, h2, h3, toks_first (tokRes_true hr).1 h3, by simp [Hid, oneTok, hr, h2, h3]⟩)))
        · exact .inr (.inr (.inr (.inl ⟨t, rfl, h2, h3, by simp [Hid, oneTok, hr, h2, h3]⟩)))
      · exact .inr (.inr (.inl ⟨t, rfl, h2, by simp [Hid, oneTok, hr, h2]⟩))
    · exact .inr (.inl ⟨l, rfl, h1, by simp [Hid, oneTok, hr, h1]⟩)

/-- The name i of a row is a name, and stands behind the one before. -/
def hidOkAt (l : List ByteArray) (i : Nat) : Bool := if h : i < l.length then oneTok l[i] 1 && (decide (i = 0) || sLess (l[i - 1]'(by omega)) l[i]) else true
def hidOk (l : List ByteArray) : Bool := decide (l.length ≤ 60) && (List.range l.length).all (hidOkAt l)
def HidUpto (l : List ByteArray) (k : Nat) : Prop := ∀ j, j < k → hidOkAt l j = true
theorem HidUpto.zero (l : List ByteArray) : HidUpto l 0 := by intro j h; omega
theorem HidUpto.succ {l : List ByteArray} {k : Nat} (h : HidUpto l k) (h1 : hidOkAt l k = true) : HidUpto l (k + 1) := by
  intro j hj
  by_cases e : j = k
  · subst e; exact h1
  · exact h j (by omega)
theorem hidOk_long {l : List ByteArray} (h : 60 < l.length) : hidOk l = false := by unfold hidOk; rw [decide_eq_false (by omega)]; rfl
theorem hidOk_no {l : List ByteArray} {k : Nat} (hk : k < l.length) (h : hidOkAt l k = false) : hidOk l = false := by
  unfold hidOk
  have : (List.range l.length).all (hidOkAt l) = false := by
    rw [List.all_eq_false]; exact ⟨k, by simpa using hk, by simp [h]⟩
  rw [this, Bool.and_false]
theorem hidOk_yes {l : List ByteArray} {k : Nat} (h : HidUpto l k) (hk : l.length ≤ k) (hl : l.length ≤ 60) : hidOk l = true := by
  unfold hidOk
  rw [decide_eq_true hl, Bool.true_and, List.all_eq_true]
  intro i hi
  have : i < l.length := by simpa using hi
  exact h i (by omega)
theorem hidAt_name {l : List ByteArray} {k : Nat} (hk : k < l.length) (h : oneTok l[k] 1 = false) : hidOkAt l k = false := by unfold hidOkAt; rw [dif_pos hk, h]; rfl
theorem hidAt_less {l : List ByteArray} {k : Nat} (hk : k < l.length) (h0 : 0 < k) (h : sLess (l[k - 1]'(by omega)) l[k] = false) : hidOkAt l k = false := by
  unfold hidOkAt; rw [dif_pos hk, h, decide_eq_false (by omega)]; simp
theorem hidAt_first {l : List ByteArray} (hk : 0 < l.length) (h : oneTok l[0] 1 = true) : hidOkAt l 0 = true := by unfold hidOkAt; rw [dif_pos hk, h]; simp
theorem hidAt_later {l : List ByteArray} {k : Nat} (hk : k < l.length) (h0 : 0 < k) (h : oneTok l[k] 1 = true) (h2 : sLess (l[k - 1]'(by omega)) l[k] = true) : hidOkAt l k = true := by
  unfold hidOkAt; rw [dif_pos hk, h, h2]; simp
/-- The ways of the name k. -/
theorem hid_ways {l : List ByteArray} {k : Nat} (hk : k < l.length) :
    (oneTok l[k] 1 = false ∧ Hid (hidOkAt l k = false)) ∨ (oneTok l[k] 1 = true ∧ k = 0 ∧ Hid (hidOkAt l k = true)) ∨
    (∃ hp : 0 < k, oneTok l[k] 1 = true ∧ sLess (l[k - 1]'(by omega)) l[k] = false ∧ Hid (hidOkAt l k = false)) ∨
    (∃ hp : 0 < k, oneTok l[k] 1 = true ∧ sLess (l[k - 1]'(by omega)) l[k] = true ∧ Hid (hidOkAt l k = true)) := by
  cases h : oneTok l[k] 1
  · exact .inl ⟨rfl, hidAt_name hk h⟩
  · by_cases h0 : k = 0
    · subst h0; exact .inr (.inl ⟨rfl, rfl, hidAt_first hk h⟩)
    · cases h2 : sLess (l[k - 1]'(by omega)) l[k]
      · exact .inr (.inr (.inl ⟨by omega, rfl, h2, hidAt_less hk (by omega) h2⟩))
      · exact .inr (.inr (.inr ⟨by omega, rfl, h2, hidAt_later hk (by omega) h h2⟩))

def tokOk (t : Tok) : Bool := oneTok t.text t.kind && hidOk t.hidden

end Go.Proofs.Ytigbaeokccknaaa
