/- Printing tokens: no program. -/
import Derived.Test.YtigbaeokccknaaaTok5
import Derived.Test.YtigbaeokccknaaaPr1
namespace Go.Proofs.Ytigbaeokccknaaa
open Go.RowKit

theorem ext_get (s : ByteArray) (i j k : Nat) (h : k < (s.extract i j).size) : (s.extract i j)[k] = s[i + k]'(by rw [ByteArray.size_extract] at h; omega) := by
  rw [ByteArray.getElem_extract]

/-- A token's kind is that of its first byte. -/
def Headed (t : Tok) : Prop := ∃ h : 0 < t.text.size, t.kind = cutKind t.text[0]
theorem toks_head (s : ByteArray) : ∀ (k : Nat) (sp : Bool) (n : Nat) (l : List Tok), toks s k sp n = some l → ∀ t ∈ l, Headed t := by
  intro k sp n
  induction k, sp, n using toks.induct (s := s) with
  | case1 k sp n hk h32 ih =>
    intro l h
    rw [toks, dif_pos hk, if_pos h32] at h
    exact ih l h
  | case2 k sp n hk h32 hb =>
    intro l h
    rw [toks, dif_pos hk, if_neg h32, if_pos hb] at h
    exact absurd h (by simp)
  | case3 k sp n hk h32 hb ih =>
    intro l h t ht
    rw [toks, dif_pos hk, if_neg h32, if_neg hb] at h
    have hr := cutEnd_room (s := s) (k := k) (by omega)
    rw [Option.map_eq_some_iff] at h
    obtain ⟨l', h1, rfl⟩ := h
    rcases List.mem_cons.1 ht with rfl | ht
    · have hz : 0 < (s.extract k (cutEnd s k).toNat).size := by rw [ByteArray.size_extract]; omega
      refine ⟨hz, ?_⟩
      show cutKind s[k] = cutKind (s.extract k (cutEnd s k).toNat)[0]
      rw [ext_get]; rfl
    · exact ih l' h1 t ht
  | case4 k sp n hk =>
    intro l h
    rw [toks, dif_neg hk] at h
    simp only [Option.some.injEq] at h
    subst h; simp
theorem tokRes_head (s : ByteArray) : ∀ t ∈ (tokRes s).1, Headed t := by
  rcases hr : tokRes s with ⟨l, ok⟩
  cases ok
  · obtain rfl := tokRes_false hr
    simp
  · exact toks_head s 0 false 0 l (tokRes_true hr).1
theorem oneTok_res {x : ByteArray} {k : Int} (h : oneTok x k = true) : ∃ t, tokRes x = ([t], true) ∧ t.kind = k ∧ t.text = x := by
  rcases one_ways x k with ⟨_, HG⟩ | ⟨l, _, _, HG⟩ | ⟨t', _, _, HG⟩ | ⟨t', _, _, _, HG⟩ | ⟨t', hr, hk, hx, _, _⟩
  · exact absurd (HG.out.symm.trans h) (by simp)
  · exact absurd (HG.out.symm.trans h) (by simp)
  · exact absurd (HG.out.symm.trans h) (by simp)
  · exact absurd (HG.out.symm.trans h) (by simp)
  · exact ⟨t', hr, hk, hx⟩
/-- What is known of a valid token. -/
theorem tokOk_facts {t : Tok} (h : tokOk t = true) : Headed t ∧ t.text.size ≤ 200 := by
  unfold tokOk at h
  rw [Bool.and_eq_true] at h
  obtain ⟨u, hr, hk, hx⟩ := oneTok_res h.1
  have h1 := tokRes_head t.text u (by rw [hr]; simp)
  have h2 := lineOk_size (tokRes_true hr).2
  refine ⟨?_, h2⟩
  obtain ⟨a, b⟩ := h1
  obtain ⟨k, x, s, hd⟩ := t
  subst hx
  exact ⟨a, (show k = u.kind from hk.symm).trans b⟩

/-- The texts of the tokens are these two. -/
def readsTwo (a b : ByteArray) : Bool := (tokRes (a ++ b)).2 && decide ((tokRes (a ++ b)).1.map (·.text) = [a, b])
/-- Two texts have // or /* where they meet. -/
def meets (a b : ByteArray) : Bool := if h : 0 < a.size ∧ 0 < b.size then decide (a[a.size - 1].toNat = 47) && (decide (b[0].toNat = 47) || decide (b[0].toNat = 42)) else false
def glued (a b : ByteArray) : Bool := !readsTwo a b || meets a b
theorem two_ways (a b : ByteArray) :
    (tokRes (a ++ b) = ([], false) ∧ Hid (glued a b = true)) ∨
    (∃ l, tokRes (a ++ b) = (l, true) ∧ l.length ≠ 2 ∧ Hid (glued a b = true)) ∨
    (∃ t1 t2, tokRes (a ++ b) = ([t1, t2], true) ∧ t1.text ≠ a ∧ Hid (glued a b = true)) ∨
    (∃ t1 t2, tokRes (a ++ b) = ([t1, t2], true) ∧ t1.text = a ∧ t2.text ≠ b ∧ Hid (glued a b = true)) ∨
    (∃ t1 t2, tokRes (a ++ b) = ([t1, t2], true) ∧ t1.text = a ∧ t2.text = b ∧ 0 < a.size ∧ 0 < b.size ∧ Hid (glued a b = meets a b)) := by
  rcases hr : tokRes (a ++ b) with ⟨l, ok⟩
  cases ok
  · obtain rfl := tokRes_false hr
    exact .inl ⟨rfl, by simp [Hid, glued, readsTwo, hr]⟩
  · by_cases h1 : l.length = 2
    · obtain ⟨t1, t2, rfl⟩ : ∃ t1 t2, l = [t1, t2] := by
        match l, h1 with
        | [t1, t2], _ => exact ⟨t1, t2, rfl⟩
      by_cases h2 : t1.text = a
      · by_cases h3 : t2.text = b
        · have e1 := tokRes_head (a ++ b) t1 (by rw [hr]; simp)
          have e2 := tokRes_head (a ++ b) t2 (by rw [hr]; simp)
          refine .inr (.inr (.inr (.inr ⟨t1, t2, rfl, h2, h3, h2 ▸ e1.1, h3 ▸ e2.1, by simp [Hid, glued, readsTwo, hr, h2, h3]⟩)))
        · exact .inr (.inr (.inr (.inl ⟨t1, t2, rfl, h2, h3, by simp [Hid, glued, readsTwo, hr, h2, h3]⟩)))
      · exact .inr (.inr (.inl ⟨t1, t2, rfl, h2, by simp [Hid, glued, readsTwo, hr, h2]⟩))
    · refine .inr (.inl ⟨l, rfl, h1, ?_⟩)
      have : (decide (l.map (·.text) = [a, b])) = false := by
        rw [decide_eq_false_iff_not]; intro e
        have := congrArg List.length e
        simp at this
        exact h1 this
      simp [Hid, glued, readsTwo, hr, this]
/-- As the program asks it, of valid tokens. -/
theorem glued_same {a b : Tok} (ha : tokOk a = true) (hb : tokOk b = true) : (!(tokRes (a.text ++ b.text)).2 || !sameTx (tokRes (a.text ++ b.text)).1 [a, b]) = !readsTwo a.text b.text := by
  obtain ⟨⟨a0, a1⟩, _⟩ := tokOk_facts ha
  obtain ⟨⟨b0, b1⟩, _⟩ := tokOk_facts hb
  unfold readsTwo
  cases hr : (tokRes (a.text ++ b.text)).2
  · rfl
  · have : sameTx (tokRes (a.text ++ b.text)).1 [a, b] = decide ((tokRes (a.text ++ b.text)).1.map (·.text) = [a.text, b.text]) := by
      have hh := tokRes_head (a.text ++ b.text)
      unfold sameTx
      refine decide_eq_decide.2 ⟨fun h => ?_, fun h => ?_⟩
      · have := congrArg (List.map Prod.snd) h
        simpa [tKey, List.map_map, Function.comp_def] using this
      · obtain ⟨t1, t2, hl⟩ : ∃ t1 t2, (tokRes (a.text ++ b.text)).1 = [t1, t2] := by
          have h2 : (tokRes (a.text ++ b.text)).1.length = 2 := by
            have := congrArg List.length h
            simpa using this
          match hl : (tokRes (a.text ++ b.text)).1, h2 with
          | [t1, t2], _ => exact ⟨t1, t2, rfl⟩
        rw [hl] at h ⊢
        · simp only [List.map_cons, List.map_nil, List.cons.injEq, and_true] at h
          obtain ⟨c0, c1⟩ := hh t1 (by rw [hl]; simp)
          obtain ⟨d0, d1⟩ := hh t2 (by rw [hl]; simp)
          have e1 : t1.kind = a.kind := by rw [c1, a1]; congr 1; simp only [h.1]
          have e2 : t2.kind = b.kind := by rw [d1, b1]; congr 1; simp only [h.2]
          simp [tKey, e1, e2, h.1, h.2]
    rw [this]; simp

/-- There is a space before the token k. -/
def gap (l : List Tok) (k : Nat) : Bool := if h : 0 < k ∧ k < l.length then l[k].spaced || glued (l[k - 1]'(by omega)).text l[k].text else false
def prTo (l : List Tok) : Nat → ByteArray
  | 0 => ⟨#[]⟩
  | k + 1 => (if gap l k = true then prTo l k ++ ⟨#[32]⟩ else prTo l k) ++ (if h : k < l.length then l[k].text else ⟨#[]⟩)
theorem prTo_yes {l : List Tok} {k : Nat} (hk : k < l.length) (h : gap l k = true) : prTo l (k + 1) = prTo l k ++ ⟨#[32]⟩ ++ l[k].text := by rw [prTo, if_pos h, dif_pos hk]
theorem prTo_no {l : List Tok} {k : Nat} (hk : k < l.length) (h : gap l k = false) : prTo l (k + 1) = prTo l k ++ l[k].text := by rw [prTo, if_neg (by simp [h]), dif_pos hk]
theorem gap_zero (l : List Tok) : gap l 0 = false := by unfold gap; rw [dif_neg (by omega)]
theorem gap_spaced {l : List Tok} {k : Nat} (h0 : 0 < k) (hk : k < l.length) (h : l[k].spaced = true) : gap l k = true := by unfold gap; rw [dif_pos ⟨h0, hk⟩, h]; rfl
theorem gap_glued {l : List Tok} {k : Nat} (h0 : 0 < k) (hk : k < l.length) (h : l[k].spaced = false) : gap l k = glued (l[k - 1]'(by omega)).text l[k].text := by unfold gap; rw [dif_pos ⟨h0, hk⟩, h]; rfl
def printRes (l : List Tok) : ByteArray × Bool := if toksOk l = true then (if 200 < (prTo l l.length).size then (⟨#[]⟩, false) else (prTo l l.length, true)) else (⟨#[]⟩, false)
theorem printRes_no {l : List Tok} (h : toksOk l = false) : printRes l = (⟨#[]⟩, false) := by unfold printRes; rw [if_neg (by simp [h])]
theorem printRes_long {l : List Tok} {k : Nat} (h : toksOk l = true) (hk : l.length = k) (h2 : 200 < (prTo l k).size) : printRes l = (⟨#[]⟩, false) := by unfold printRes; rw [if_pos h, hk, if_pos h2]
theorem printRes_yes {l : List Tok} {k : Nat} (h : toksOk l = true) (hk : l.length = k) (h2 : ¬ 200 < (prTo l k).size) : printRes l = (prTo l k, true) := by unfold printRes; rw [if_pos h, hk, if_neg h2]
theorem toksOk_facts {l : List Tok} (h : toksOk l = true) : l.length ≤ 60 ∧ ∀ k, (hk : k < l.length) → tokOk l[k] = true := by
  unfold toksOk at h
  rw [Bool.and_eq_true, decide_eq_true_eq, List.all_eq_true] at h
  exact ⟨h.1, fun k hk => h.2 _ (List.getElem_mem hk)⟩
theorem prTo_size {l : List Tok} (h : toksOk l = true) : ∀ k, k ≤ l.length → (prTo l k).size ≤ 201 * k
  | 0, _ => by show (0 : Nat) ≤ _; omega
  | k + 1, hk => by
    have ih := prTo_size h k (by omega)
    have h2 := (tokOk_facts ((toksOk_facts h).2 k (by omega))).2
    cases hg : gap l k
    · rw [prTo_no (by omega) hg, ByteArray.size_append]; omega
    · rw [prTo_yes (by omega) hg, ByteArray.size_append, ByteArray.size_append]
      have : (⟨#[32]⟩ : ByteArray).size = 1 := rfl
      omega

end Go.Proofs.Ytigbaeokccknaaa
