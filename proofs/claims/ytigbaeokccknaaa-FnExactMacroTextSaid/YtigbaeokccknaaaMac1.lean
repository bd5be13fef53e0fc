/- The text of a macro is read as the macro again: no program. -/
import Derived.Test.YtigbaeokccknaaaMac0
namespace Go.Proofs.Ytigbaeokccknaaa
open Go.RowKit

/-! ### Tokens that need no space between them -/
theorem cut_ends {a : Tok} (ha : tokOk a = true) {z : ByteArray} (h : ∀ c, bAt z 0 = some c → stopB c = true) : cutEnd (a.text ++ z) 0 = (a.text.size : Nat) := by
  obtain ⟨h0, _, hc, _⟩ := tokOk_cut ha
  have := cut_same (s := a.text) (s' := a.text ++ z) (k := 0) (k' := 0) (d := a.text.size) (by rw [hc]; omega) (fun j hj => by rw [Nat.zero_add]; exact bAt_left hj) (.inr fun c hc => h c (by rwa [bAt_right (j := 0) (by omega)] at hc))
  rw [this]; omega
theorem one_at (c : UInt8) : ∃ h : 0 < (⟨#[c]⟩ : ByteArray).size, (⟨#[c]⟩ : ByteArray)[0] = c := ⟨by show 0 < 1; omega, rfl⟩
theorem cut_solo {c : UInt8} (hc : c = 40 ∨ c = 44) (z : ByteArray) : cutEnd ((⟨#[c]⟩ : ByteArray) ++ z) 0 = 1 := by
  obtain ⟨g0, g1⟩ := one_at c
  have hz : 0 < ((⟨#[c]⟩ : ByteArray) ++ z).size := by rw [ByteArray.size_append]; omega
  have h0 : ((⟨#[c]⟩ : ByteArray) ++ z)[0] = c := by rw [ByteArray.getElem_append_left g0, g1]
  have hw : isWord c = false := by rcases hc with rfl | rfl <;> decide
  have hq : ¬ c.toNat = 34 := by rcases hc with rfl | rfl <;> decide
  have ht : twoAt ((⟨#[c]⟩ : ByteArray) ++ z) 0 = false := by
    unfold twoAt; simp only [two_bAt, bAt_lt hz, h0]
    rcases hc with rfl | rfl <;> simp
  have hm : mLen ((⟨#[c]⟩ : ByteArray) ++ z) 0 = 1 := by
    unfold mLen
    rw [if_neg (by simp [ht]), dif_pos hz, if_pos (by rw [h0]; rcases hc with rfl | rfl <;> decide)]
  rw [cutEnd_mark hz (by rw [h0]; exact hw) (by rw [h0]; exact hq), hm]; rfl
theorem cut_one {c : UInt8} (hc : c = 40 ∨ c = 41 ∨ c = 44) : cutEnd (⟨#[c]⟩ : ByteArray) 0 = (1 : Nat) := by
  obtain ⟨g0, g1⟩ := one_at c
  have hw : isWord c = false := by rcases hc with rfl | rfl | rfl <;> decide
  have hq : ¬ c.toNat = 34 := by rcases hc with rfl | rfl | rfl <;> decide
  have ht : twoAt (⟨#[c]⟩ : ByteArray) 0 = false := twoAt_no (fun d hd => by
    obtain ⟨h, _⟩ := bAt_some hd
    exact absurd h (by show ¬ 0 + 1 < 1; omega))
  have hm : mLen (⟨#[c]⟩ : ByteArray) 0 = 1 := by
    unfold mLen
    rw [if_neg (by simp [ht]), dif_pos g0, if_pos (by rw [g1]; rcases hc with rfl | rfl | rfl <;> decide)]
  rw [cutEnd_mark g0 (by rw [g1]; exact hw) (by rw [g1]; exact hq), hm]; rfl
def markT (c : UInt8) : Tok := ⟨4, ⟨#[c]⟩, false, []⟩
def nameT (s : ByteArray) : Tok := ⟨1, s, false, []⟩
theorem markT_ok {c : UInt8} (hc : c = 40 ∨ c = 41 ∨ c = 44) : tokOk (markT c) = true := by
  obtain ⟨g0, g1⟩ := one_at c
  have hl : lineOk (⟨#[c]⟩ : ByteArray) = true := by rcases hc with rfl | rfl | rfl <;> decide
  have := sub_tok hl g0 (by rw [g1]; rcases hc with rfl | rfl | rfl <;> decide) (cut_one hc) false
  have e1 : (⟨#[c]⟩ : ByteArray).extract 0 1 = ⟨#[c]⟩ := by
    refine bAt_ext rfl fun j hj => ?_
    rw [bAt_sub (by show 1 ≤ 1; omega) (by have : j < 1 := hj; omega), Nat.zero_add]
  have e2 : cutKind ((⟨#[c]⟩ : ByteArray)[0]) = 4 := by rw [g1]; rcases hc with rfl | rfl | rfl <;> decide
  rw [e1, e2] at this
  exact this
theorem nameT_ok {s : ByteArray} (h : oneTok s 1 = true) : tokOk (nameT s) = true := by
  unfold tokOk nameT
  rw [Bool.and_eq_true]
  exact ⟨h, by show hidOk [] = true; decide⟩
theorem wEnd_words (s : ByteArray) (k : Nat) : ∀ j, (h : j < s.size) → k ≤ j → j < wEnd s k → isWord s[j] = true := by
  induction k using wEnd.induct (s := s) with
  | case1 k h hc ih =>
    intro j hj hkj hje
    rw [wEnd_in h hc] at hje
    by_cases e : j = k
    · subst e; exact hc
    · exact ih j hj (by omega) hje
  | case2 k h hc => intro j hj hkj hje; rw [wEnd_stop h (by simpa using hc)] at hje; omega
  | case3 k h => intro j hj hkj hje; rw [wEnd_out (by omega)] at hje; omega
/-- A name: at most twelve bytes, each of a word. -/
theorem name_facts {s : ByteArray} (h : oneTok s 1 = true) : 0 < s.size ∧ s.size ≤ 12 ∧ ∀ j, (hj : j < s.size) → isWord s[j] = true := by
  obtain ⟨h0, _, hc, _⟩ := tokOk_cut (nameT_ok h)
  obtain ⟨_, hk⟩ := (tokOk_facts (nameT_ok h)).1
  have h0' : 0 < s.size := h0
  have hc' : cutEnd s 0 = (s.size : Nat) := hc
  have hk' : (1 : Int) = cutKind s[0] := hk
  have hw : isWord s[0] = true := by
    unfold cutKind at hk'
    unfold isWord
    split at hk'
    · omega
    · split at hk'
      · rename_i h; rw [h]; rfl
      · split at hk' <;> omega
  rw [cutEnd_word h0' hw] at hc'
  split at hc'
  · omega
  · exact ⟨h0', by omega, fun j hj => wEnd_words s 0 j hj (by omega) (by omega)⟩
theorem reads_two {a b : Tok} (ha : tokOk a = true) (hb : tokOk b = true) (hc : cutEnd (a.text ++ b.text) 0 = (a.text.size : Nat)) (hs : a.text.size + b.text.size ≤ 200) : readsTwo a.text b.text = true := by
  obtain ⟨a0, a32, _, al⟩ := tokOk_cut ha
  obtain ⟨b0, b32, bc, bl⟩ := tokOk_cut hb
  have hz : (a.text ++ b.text).size = a.text.size + b.text.size := ByteArray.size_append
  have hl : lineOk (a.text ++ b.text) = true := ((AllOk.of al).app (AllOk.of bl)).line (by omega)
  have g0 : 0 < (a.text ++ b.text).size := by omega
  have g1 : a.text.size < (a.text ++ b.text).size := by omega
  have e0 : (a.text ++ b.text)[0] = a.text[0] := ByteArray.getElem_append_left a0
  have e1 : (a.text ++ b.text)[a.text.size] = b.text[0] := by
    have h1 := bAt_right (s := a.text) (t := b.text) (i := a.text.size) (j := 0) (by omega)
    rw [bAt_lt g1, bAt_lt b0, Option.some.injEq] at h1
    exact h1
  have hc2 : cutEnd (a.text ++ b.text) a.text.size = (a.text.size + b.text.size : Nat) := by
    refine cut_same (s := b.text) (k := 0) (by rw [bc]; omega) (fun j hj => ?_) (ends_none (bAt_ge (by omega)))
    rw [Nat.zero_add]; exact bAt_right rfl
  have t1 := (AtT.zero (a.text ++ b.text)).tok g0 (by rw [e0]; exact a32) (by rw [hc]) (by simp)
  have t2 := t1.tok g1 (by rw [e1]; exact b32) hc2 (by simp)
  have t3 := tokRes_some hl (t2.done (by omega))
  have x1 : (a.text ++ b.text).extract 0 a.text.size = a.text := by
    have hzz : ((a.text ++ b.text).extract 0 a.text.size).size = a.text.size := by rw [ByteArray.size_extract]; omega
    refine bAt_ext hzz fun j hj => ?_
    rw [bAt_sub (by omega) (by omega), Nat.zero_add, bAt_left (by omega)]
  have x2 : (a.text ++ b.text).extract a.text.size (a.text.size + b.text.size) = b.text := by
    have hzz : ((a.text ++ b.text).extract a.text.size (a.text.size + b.text.size)).size = b.text.size := by rw [ByteArray.size_extract]; omega
    refine bAt_ext hzz fun j hj => ?_
    rw [bAt_sub (by omega) (by omega)]
    exact bAt_right rfl
  unfold readsTwo
  rw [t3]
  simp [x1, x2]
theorem meets_no {a b : ByteArray} (h : ∀ h : 0 < a.size, (a[a.size - 1]'(by omega)).toNat ≠ 47) : meets a b = false := by
  unfold meets
  split
  · rename_i hh
    rw [decide_eq_false (h hh.1)]; rfl
  · rfl
theorem glue_name {s : ByteArray} (h : oneTok s 1 = true) {c : UInt8} (hc : c = 40 ∨ c = 41 ∨ c = 44) : glued s (⟨#[c]⟩ : ByteArray) = false := by
  obtain ⟨h0, h12, hw⟩ := name_facts h
  have hr : readsTwo (nameT s).text (markT c).text = true := by
    refine reads_two (nameT_ok h) (markT_ok hc) (cut_ends (nameT_ok h) fun d hd => ?_) (by show s.size + 1 ≤ 200; omega)
    obtain ⟨_, hx⟩ := bAt_some hd
    have hx' : c = d := hx
    subst hx'
    rcases hc with rfl | rfl | rfl <;> decide
  have hm : meets s (⟨#[c]⟩ : ByteArray) = false := meets_no fun hp => by
    have := hw (s.size - 1) (by omega)
    rw [isWord_iff] at this
    omega
  unfold glued
  rw [show readsTwo s (⟨#[c]⟩ : ByteArray) = true from hr, hm]; rfl
theorem glue_mark {c : UInt8} (hc : c = 40 ∨ c = 44) {b : Tok} (hb : tokOk b = true) (hs : b.text.size ≤ 100) : glued (⟨#[c]⟩ : ByteArray) b.text = false := by
  have hr : readsTwo (markT c).text b.text = true := by
    refine reads_two (markT_ok (by rcases hc with h | h; exact .inl h; exact .inr (.inr h))) hb ?_ (by show 1 + b.text.size ≤ 200; omega)
    exact (cut_solo hc b.text).trans rfl
  have hm : meets (⟨#[c]⟩ : ByteArray) b.text = false := meets_no fun hp => by
    have : (⟨#[c]⟩ : ByteArray)[(⟨#[c]⟩ : ByteArray).size - 1] = c := rfl
    rw [this]
    rcases hc with rfl | rfl <;> decide
  unfold glued
  rw [show readsTwo (⟨#[c]⟩ : ByteArray) b.text = true from hr, hm]; rfl

/-! ### Printing token by token -/
def prAll (l : List Tok) : ByteArray := prTo l l.length
theorem gap_pre (A X : List Tok) {k : Nat} (hk : k < A.length) : gap (A ++ X) k = gap A k := by
  unfold gap
  by_cases h0 : 0 < k
  · rw [dif_pos ⟨h0, by rw [List.length_append]; omega⟩, dif_pos ⟨h0, hk⟩, List.getElem_append_left hk, List.getElem_append_left (by omega)]
  · rw [dif_neg (by omega), dif_neg (by omega)]
theorem prTo_pre (A X : List Tok) : ∀ k, k ≤ A.length → prTo (A ++ X) k = prTo A k
  | 0, _ => rfl
  | k + 1, hk => by
    have ih := prTo_pre A X k (by omega)
    have hk' : k < A.length := by omega
    rw [prTo, prTo, gap_pre A X hk', ih, dif_pos (by rw [List.length_append]; omega), dif_pos hk', List.getElem_append_left hk']
theorem prAll_snoc (A : List Tok) (p t : Tok) : prAll (A ++ [p] ++ [t]) = (if (t.spaced || glued p.text t.text) = true then prAll (A ++ [p]) ++ ⟨#[32]⟩ else prAll (A ++ [p])) ++ t.text := by
  have hl : (A ++ [p] ++ [t]).length = (A ++ [p]).length + 1 := by simp
  have hlp : (A ++ [p]).length = A.length + 1 := by simp
  unfold prAll
  rw [hl, prTo]
  have hg : gap (A ++ [p] ++ [t]) (A ++ [p]).length = (t.spaced || glued p.text t.text) := by
    unfold gap
    rw [dif_pos ⟨by omega, by omega⟩]
    have e1 : (A ++ [p] ++ [t])[(A ++ [p]).length] = t := by rw [List.getElem_append_right (Nat.le_refl _)]; simp
    have e2 : (A ++ [p] ++ [t])[(A ++ [p]).length - 1]'(by omega) = p := by
      rw [List.getElem_append_left (by omega), List.getElem_append_right (by omega)]; simp
    rw [e1, e2]
  rw [hg, prTo_pre _ _ _ (Nat.le_refl _), dif_pos (by omega)]
  congr 1
  rw [List.getElem_append_right (Nat.le_refl _)]; simp
theorem prAll_one (t : Tok) : prAll [t] = t.text := by
  unfold prAll
  show prTo [t] 1 = _
  rw [prTo_no (by simp) (gap_zero _)]
  exact nil_app t.text

/-! ### The tokens of a macro's text -/
/-- The head's tokens up to the parameter k. -/
def hL (m : DMacro) : Nat → List Tok
  | 0 => [nameT m.name, markT 40]
  | k + 1 => (if 0 < k then hL m k ++ [markT 44] else hL m k) ++ [nameT (if h : k < m.params.length then m.params[k] else ⟨#[]⟩)]
def lastT (m : DMacro) (k : Nat) : Tok := if 0 < k then nameT (if h : k - 1 < m.params.length then m.params[k - 1] else ⟨#[]⟩) else markT 40
theorem hL_last (m : DMacro) (k : Nat) : ∃ A, hL m k = A ++ [lastT m k] := by
  cases k with
  | zero => exact ⟨[nameT m.name], rfl⟩
  | succ k =>
    refine ⟨if 0 < k then hL m k ++ [markT 44] else hL m k, ?_⟩
    unfold lastT
    rw [if_pos (Nat.succ_pos k)]; rfl
theorem hL_len (m : DMacro) : ∀ k, (hL m k).length = if 0 < k then 2 * k + 1 else 2
  | 0 => rfl
  | 1 => rfl
  | k + 2 => by
    have ih := hL_len m (k + 1)
    rw [if_pos (by omega)] at ih
    rw [hL, if_pos (by omega), if_pos (by omega), List.length_append, List.length_append, ih]
    simp; omega
theorem hL_first (m : DMacro) : ∀ k, (hL m k)[0]? = some (nameT m.name) ∧ (hL m k)[1]? = some (markT 40)
  | 0 => ⟨rfl, rfl⟩
  | k + 1 => by
    obtain ⟨h1, h2⟩ := hL_first m k
    have hl : 2 ≤ (hL m k).length := by rw [hL_len]; split <;> omega
    have hl' : 2 ≤ (if 0 < k then hL m k ++ [markT 44] else hL m k).length := by
      split
      · rw [List.length_append]; omega
      · exact hl
    rw [hL, List.getElem?_append_left (by omega), List.getElem?_append_left (by omega)]
    split
    · rw [List.getElem?_append_left (by omega), List.getElem?_append_left (by omega)]; exact ⟨h1, h2⟩
    · exact ⟨h1, h2⟩
theorem hL_at (m : DMacro) : ∀ k, k ≤ m.params.length → ∀ i, (hi : i < k) → (hn : i < m.params.length) → (hL m k)[2 + 2 * i]? = some (nameT m.params[i]) ∧ (i + 1 < k → (hL m k)[3 + 2 * i]? = some (markT 44))
  | 0, _, i, hi, _ => by omega
  | k + 1, hk, i, hi, hn => by
    have hlen := hL_len m k
    by_cases h0 : 0 < k
    · rw [if_pos h0] at hlen
      have hl1 : (hL m k ++ [markT 44]).length = 2 * k + 2 := by rw [List.length_append, hlen]; rfl
      rw [hL, if_pos h0]
      by_cases e : i = k
      · subst e
        refine ⟨?_, fun h => by omega⟩
        rw [List.getElem?_append_right (by omega), hl1, show 2 + 2 * i - (2 * i + 2) = 0 by omega]
        simp [hn]
      · obtain ⟨h1, h2⟩ := hL_at m k (by omega) i (by omega) hn
        refine ⟨?_, fun h => ?_⟩
        · rw [List.getElem?_append_left (by omega), List.getElem?_append_left (by omega)]; exact h1
        · rw [List.getElem?_append_left (by omega)]
          by_cases h3 : i + 1 < k
          · rw [List.getElem?_append_left (by omega)]; exact h2 h3
          · rw [List.getElem?_append_right (by omega), hlen, show 3 + 2 * i - (2 * k + 1) = 0 by omega]; rfl
    · obtain rfl : k = 0 := by omega
      obtain rfl : i = 0 := by omega
      refine ⟨?_, fun h => by omega⟩
      rw [hL, if_neg (by omega)]
      simp [hL, hn]
theorem hL_ok {m : DMacro} (h : macOk m = true) : ∀ k, k ≤ m.params.length → ∀ t ∈ hL m k, tokOk t = true := by
  obtain ⟨⟨h1, _⟩, h2, _⟩ := macOk_facts h
  intro k
  induction k with
  | zero =>
    intro _ t ht
    simp only [hL, List.mem_cons, List.not_mem_nil, or_false] at ht
    rcases ht with rfl | rfl
    · exact nameT_ok h1
    · exact markT_ok (by decide)
  | succ k ih =>
    intro hk t ht
    rw [hL] at ht
    rcases List.mem_append.1 ht with ht | ht
    · split at ht
      · rcases List.mem_append.1 ht with ht | ht
        · exact ih (by omega) t ht
        · obtain rfl := List.mem_singleton.1 ht
          exact markT_ok (by decide)
      · exact ih (by omega) t ht
    · obtain rfl := List.mem_singleton.1 ht
      rw [dif_pos (by omega)]
      exact nameT_ok (h2 k (by omega))
theorem hL_print {m : DMacro} (h : macOk m = true) : ∀ k, k ≤ m.params.length → prAll (hL m k) = hdTo m k := by
  obtain ⟨⟨h1, _⟩, h2, _⟩ := macOk_facts h
  intro k
  induction k with
  | zero =>
    intro _
    have := prAll_snoc [] (nameT m.name) (markT 40)
    have hg : ((markT 40).spaced || glued (nameT m.name).text (markT 40).text) = false := glue_name h1 (.inl rfl)
    rw [hg, if_neg (by simp)] at this
    show prAll ([] ++ [nameT m.name] ++ [markT 40]) = _
    rw [this]
    show prAll [nameT m.name] ++ _ = _
    rw [prAll_one]; rfl
  | succ k ih =>
    intro hk
    have ih' := ih (by omega)
    have hkp : k < m.params.length := by omega
    have hnk := h2 k hkp
    have hsz : (nameT m.params[k]).text.size ≤ 100 := by have := (name_facts hnk).2.1; show m.params[k].size ≤ 100; omega
    obtain ⟨A, hA⟩ := hL_last m k
    by_cases h0 : 0 < k
    · have hlast : lastT m k = nameT (m.params[k - 1]'(by omega)) := by unfold lastT; rw [if_pos h0, dif_pos (by omega)]
      rw [hlast] at hA
      have s1 := prAll_snoc A (nameT (m.params[k - 1]'(by omega))) (markT 44)
      have g1 : ((markT 44).spaced || glued (nameT (m.params[k - 1]'(by omega))).text (markT 44).text) = false := glue_name (h2 (k - 1) (by omega)) (.inr (.inr rfl))
      rw [g1, if_neg (by simp), ← hA, ih'] at s1
      have s2 := prAll_snoc (hL m k) (markT 44) (nameT m.params[k])
      have g2 : ((nameT m.params[k]).spaced || glued (markT 44).text (nameT m.params[k]).text) = false := glue_mark (.inr rfl) (nameT_ok hnk) hsz
      rw [g2, if_neg (by simp), s1] at s2
      rw [hL, if_pos h0, dif_pos hkp, s2, hdTo, if_pos h0, dif_pos hkp]
      rfl
    · have hlast : lastT m k = markT 40 := by unfold lastT; rw [if_neg h0]
      rw [hlast] at hA
      have s1 := prAll_snoc A (markT 40) (nameT m.params[k])
      have g1 : ((nameT m.params[k]).spaced || glued (markT 40).text (nameT m.params[k]).text) = false := glue_mark (.inl rfl) (nameT_ok hnk) hsz
      rw [g1, if_neg (by simp), ← hA, ih'] at s1
      rw [hL, if_neg h0, dif_pos hkp, s1, hdTo, if_neg h0, dif_pos hkp]
      rfl
def headL (m : DMacro) : List Tok := if m.function = true then hL m m.params.length ++ [markT 41] else [nameT m.name]
theorem headL_print {m : DMacro} (h : macOk m = true) : prAll (headL m) = headOf m := by
  obtain ⟨⟨h1, _⟩, h2, _⟩ := macOk_facts h
  unfold headL headOf
  split
  · obtain ⟨A, hA⟩ := hL_last m m.params.length
    have s1 := prAll_snoc A (lastT m m.params.length) (markT 41)
    have g1 : ((markT 41).spaced || glued (lastT m m.params.length).text (markT 41).text) = false := by
      unfold lastT
      split
      · rename_i h0
        rw [dif_pos (by omega)]
        exact glue_name (h2 _ (by omega)) (.inr (.inl rfl))
      · exact glue_mark (.inl rfl) (markT_ok (by decide)) (by decide)
    rw [g1, if_neg (by simp), ← hA, hL_print h _ (Nat.le_refl _)] at s1
    rw [s1]; rfl
  · exact prAll_one _
theorem headL_ok {m : DMacro} (h : macOk m = true) : ∀ t ∈ headL m, tokOk t = true := by
  unfold headL
  split
  · intro t ht
    rcases List.mem_append.1 ht with ht | ht
    · exact hL_ok h _ (Nat.le_refl _) t ht
    · obtain rfl := List.mem_singleton.1 ht
      exact markT_ok (by decide)
  · intro t ht
    obtain rfl := List.mem_singleton.1 ht
    exact nameT_ok (macOk_facts h).1.1
theorem headL_len {m : DMacro} (h : macOk m = true) : 0 < (headL m).length ∧ (headL m).length ≤ 11 := by
  have h4 := (macOk_facts h).1.2.2.1
  unfold headL
  split
  · have := hL_len m m.params.length
    rw [List.length_append, this]
    split <;> simp <;> omega
  · simp

/-- The body behind a space. -/
def bodyS (b : List Tok) : List Tok := b.mapIdx fun i t => ⟨t.kind, t.text, t.spaced || decide (i = 0), []⟩
theorem bodyS_len (b : List Tok) : (bodyS b).length = b.length := by simp [bodyS]
theorem bodyS_get (b : List Tok) (i : Nat) (h : i < (bodyS b).length) : (bodyS b)[i] = ⟨(b[i]'(by rw [bodyS_len] at h; exact h)).kind, (b[i]'(by rw [bodyS_len] at h; exact h)).text, (b[i]'(by rw [bodyS_len] at h; exact h)).spaced || decide (i = 0), []⟩ := by simp [bodyS]
def macL (m : DMacro) : List Tok := headL m ++ bodyS m.body
theorem macL_len (m : DMacro) : (macL m).length = (headL m).length + m.body.length := by unfold macL; rw [List.length_append, bodyS_len]
theorem macL_head (m : DMacro) {i : Nat} (h : i < (headL m).length) (h' : i < (macL m).length) : (macL m)[i] = (headL m)[i] := List.getElem_append_left h
theorem macL_body (m : DMacro) {i j : Nat} (hj : j = (headL m).length + i) (h : i < m.body.length) (h' : j < (macL m).length) : (macL m)[j] = ⟨m.body[i].kind, m.body[i].text, m.body[i].spaced || decide (i = 0), []⟩ := by
  subst hj
  have h2 : (headL m).length + i < (headL m ++ bodyS m.body).length := h'
  have e : (headL m ++ bodyS m.body)[(headL m).length + i] = (bodyS m.body)[i]'(by rw [bodyS_len]; exact h) := by
    rw [List.getElem_append_right (by omega)]; simp
  exact e.trans (bodyS_get m.body i (by rw [bodyS_len]; exact h))
theorem macL_ok {m : DMacro} (h : macOk m = true) : toksOk (macL m) = true := by
  obtain ⟨⟨_, _, _, _, h5⟩, _, h7⟩ := macOk_facts h
  have hl := headL_len h
  unfold toksOk
  rw [Bool.and_eq_true, decide_eq_true_eq, List.all_eq_true]
  refine ⟨by rw [macL_len]; omega, fun t ht => ?_⟩
  rcases List.mem_append.1 ht with ht | ht
  · exact headL_ok h t ht
  · obtain ⟨i, hi, rfl⟩ := List.getElem_of_mem ht
    have hi' : i < m.body.length := by rw [bodyS_len] at hi; exact hi
    rw [bodyS_get]
    exact tokOk_bare (bodOk_facts hi' (h7 i hi')).1 _
theorem macL_gap {m : DMacro} (h : macOk m = true) {i : Nat} (hi : i < m.body.length) : gap (macL m) ((headL m).length + i) = if i = 0 then true else gap m.body i := by
  have hl := headL_len h
  have hlen := macL_len m
  unfold gap
  rw [dif_pos ⟨by omega, by omega⟩, macL_body m rfl hi]
  by_cases h0 : i = 0
  · rw [if_pos h0, decide_eq_true h0]; simp
  · rw [if_neg h0, dif_pos ⟨by omega, hi⟩, macL_body m (i := i - 1) (by omega) (by omega), decide_eq_false h0]
    simp
theorem macL_print {m : DMacro} (h : macOk m = true) : ∀ i, i ≤ m.body.length → prTo (macL m) ((headL m).length + i) = if 0 < i then headOf m ++ ⟨#[32]⟩ ++ prTo m.body i else headOf m
  | 0, _ => by
    rw [if_neg (by omega), Nat.add_zero]
    unfold macL
    rw [prTo_pre _ _ _ (Nat.le_refl _)]
    exact headL_print h
  | i + 1, hi => by
    have ih := macL_print h i (by omega)
    have hlen := macL_len m
    have hi' : i < m.body.length := by omega
    have hg := macL_gap h hi'
    rw [if_pos (Nat.succ_pos i), show (headL m).length + (i + 1) = (headL m).length + i + 1 by omega]
    by_cases h0 : i = 0
    · have ih' : prTo (macL m) ((headL m).length + i) = headOf m := by rw [ih, if_neg (by omega)]
      rw [if_pos h0] at hg
      rw [prTo_yes (by omega) hg, macL_body m rfl hi', ih', prTo_no hi' (by rw [h0]; exact gap_zero _)]
      subst h0
      show headOf m ++ ⟨#[32]⟩ ++ m.body[0].text = headOf m ++ ⟨#[32]⟩ ++ (⟨#[]⟩ ++ m.body[0].text)
      rw [nil_app]
    · have ih' : prTo (macL m) ((headL m).length + i) = headOf m ++ ⟨#[32]⟩ ++ prTo m.body i := by rw [ih, if_pos (by omega)]
      rw [if_neg h0] at hg
      cases hb : gap m.body i
      · rw [hb] at hg
        rw [prTo_no (by omega) hg, macL_body m rfl hi', ih', prTo_no hi' hb]
        simp only [ByteArray.append_assoc]
      · rw [hb] at hg
        rw [prTo_yes (by omega) hg, macL_body m rfl hi', ih', prTo_yes hi' hb]
        simp only [ByteArray.append_assoc]

/-! ### Reading it -/
theorem back_get (m : DMacro) {i : Nat} (h : i < (macL m).length) : ∃ h' : i < (readBack (macL m)).length, (readBack (macL m))[i] = ⟨(macL m)[i].kind, (macL m)[i].text, gap (macL m) i, []⟩ :=
  ⟨by rw [readBack_len]; exact h, readBack_get _ _ _⟩
theorem headL_fun {m : DMacro} (hf : m.function = true) : headL m = hL m m.params.length ++ [markT 41] := by unfold headL; rw [if_pos hf]
theorem headL_flen {m : DMacro} (hf : m.function = true) : (headL m).length = if 0 < m.params.length then 2 * m.params.length + 2 else 3 := by
  rw [headL_fun hf, List.length_append, hL_len]; split <;> rfl
theorem get_some {l : List Tok} {i : Nat} {t : Tok} (h : l[i]? = some t) : ∃ h : i < l.length, l[i] = t := List.getElem?_eq_some_iff.1 h
theorem macL_at {m : DMacro} {i : Nat} {t : Tok} (h : (headL m)[i]? = some t) : ∃ h : i < (macL m).length, (macL m)[i] = t := by
  obtain ⟨h1, h2⟩ := get_some h
  have h3 : i < (macL m).length := by rw [macL_len]; omega
  exact ⟨h3, (macL_head m h1 h3).trans h2⟩
theorem pars_read {m : DMacro} (hf : m.function = true) : ∀ d i, i + d + 1 = m.params.length → parsAt (readBack (macL m)) (2 + 2 * i) = some (m.params.drop i, (headL m).length) := by
  intro d
  induction d with
  | zero =>
    intro i hi
    have hlen := headL_flen hf
    rw [if_pos (by omega)] at hlen
    have hn : i < m.params.length := by omega
    have a1 : (headL m)[2 + 2 * i]? = some (nameT m.params[i]) := by
      rw [headL_fun hf, List.getElem?_append_left (by rw [hL_len, if_pos (by omega)]; omega)]
      exact (hL_at m _ (Nat.le_refl _) i hn hn).1
    have a2 : (headL m)[2 + 2 * i + 1]? = some (markT 41) := by
      have := hL_len m m.params.length
      rw [if_pos (by omega)] at this
      rw [headL_fun hf, List.getElem?_append_right (by omega), this, show 2 + 2 * i + 1 - (2 * m.params.length + 1) = 0 by omega]; rfl
    obtain ⟨h1, e1⟩ := macL_at a1
    obtain ⟨h2, e2⟩ := macL_at a2
    obtain ⟨g1, r1⟩ := back_get m h1
    obtain ⟨g2, r2⟩ := back_get m h2
    rw [parsAt, dif_pos g2, r1, r2, e1, e2, if_pos (by rfl), if_pos (by rfl)]
    show some ([m.params[i]], 2 + 2 * i + 2) = _
    have : m.params.drop i = [m.params[i]] := by
      rw [List.drop_eq_getElem_cons hn, List.drop_eq_nil_iff.2 (by omega)]
    rw [this, hlen]
    congr 2
    omega
  | succ d ih =>
    intro i hi
    have hlen := headL_flen hf
    rw [if_pos (by omega)] at hlen
    have hn : i < m.params.length := by omega
    have a1 : (headL m)[2 + 2 * i]? = some (nameT m.params[i]) := by
      rw [headL_fun hf, List.getElem?_append_left (by rw [hL_len, if_pos (by omega)]; omega)]
      exact (hL_at m _ (Nat.le_refl _) i hn hn).1
    have a2 : (headL m)[2 + 2 * i + 1]? = some (markT 44) := by
      rw [headL_fun hf, List.getElem?_append_left (by rw [hL_len, if_pos (by omega)]; omega), show 2 + 2 * i + 1 = 3 + 2 * i by omega]
      exact (hL_at m _ (Nat.le_refl _) i hn hn).2 (by omega)
    obtain ⟨h1, e1⟩ := macL_at a1
    obtain ⟨h2, e2⟩ := macL_at a2
    obtain ⟨g1, r1⟩ := back_get m h1
    obtain ⟨g2, r2⟩ := back_get m h2
    have ih' := ih (i + 1) (by omega)
    rw [parsAt, dif_pos g2, r1, r2, e1, e2, if_pos (by rfl), if_neg (by show ¬ (⟨#[44]⟩ : ByteArray) = ⟨#[41]⟩; decide), if_pos (by rfl), show 2 + 2 * i + 2 = 2 + 2 * (i + 1) by omega, ih', List.drop_eq_getElem_cons hn]
    rfl
theorem bodyFrom_len (l : List Tok) (k : Nat) : (bodyFrom l k).length = l.length - k := by simp [bodyFrom]
theorem bodyFrom_get (l : List Tok) (k i : Nat) (h : i < (bodyFrom l k).length) : (bodyFrom l k)[i] = ⟨(l[k + i]'(by rw [bodyFrom_len] at h; omega)).kind, (l[k + i]'(by rw [bodyFrom_len] at h; omega)).text, (l[k + i]'(by rw [bodyFrom_len] at h; omega)).spaced && decide (0 < i), []⟩ := by simp [bodyFrom]
theorem gap_back (b : List Tok) (k : Nat) : gap (readBack b) k = gap b k := by
  unfold gap
  by_cases h : 0 < k ∧ k < b.length
  · rw [dif_pos ⟨h.1, by rw [readBack_len]; exact h.2⟩, dif_pos h, readBack_get, readBack_get]
    show (gap b k || glued _ _) = _
    unfold gap
    rw [dif_pos h]
    cases b[k].spaced <;> simp
  · rw [dif_neg (by rw [readBack_len]; exact h), dif_neg h]
theorem prTo_back (b : List Tok) : ∀ k, k ≤ b.length → prTo (readBack b) k = prTo b k
  | 0, _ => rfl
  | k + 1, hk => by
    have ih := prTo_back b k (by omega)
    have hk' : k < b.length := by omega
    rw [prTo, prTo, gap_back, ih, dif_pos hk', dif_pos (by rw [readBack_len]; exact hk'), readBack_get]
/-- A macro as it is read back. -/
def macBack (m : DMacro) : DMacro := ⟨m.name, m.function, m.params, readBack m.body⟩
theorem macBack_ok {m : DMacro} (h : macOk m = true) : macOk (macBack m) = true :=
  macOk_keys h (readBack_len _) fun k h1 h2 => by
    rw [readBack_get]
    exact ⟨rfl, rfl, rfl, fun h => by subst h; show gap m.body 0 = false; exact gap_zero m.body⟩
theorem macBack_same (m : DMacro) : sameTx (macBack m).body m.body = true := by
  unfold sameTx macBack
  rw [readBack_keys]; simp
theorem hdTo_back (m : DMacro) : ∀ k, hdTo (macBack m) k = hdTo m k
  | 0 => rfl
  | k + 1 => by rw [hdTo, hdTo, hdTo_back m k]; rfl
theorem body_toks {m : DMacro} (h : macOk m = true) : toksOk m.body = true := by
  obtain ⟨⟨_, _, _, _, h5⟩, _, h7⟩ := macOk_facts h
  unfold toksOk
  rw [Bool.and_eq_true, decide_eq_true_eq, List.all_eq_true]
  refine ⟨by omega, fun t ht => ?_⟩
  obtain ⟨i, hi, rfl⟩ := List.getElem_of_mem ht
  exact (bodOk_facts hi (h7 i hi)).1
theorem print_same {a b : List Tok} (ha : toksOk a = true) (hb : toksOk b = true) (h : prTo a a.length = prTo b b.length) : printRes a = printRes b := by
  unfold printRes; rw [if_pos ha, if_pos hb, h]
theorem macBack_text {m : DMacro} (h : macOk m = true) : macText (macBack m) = macText m := by
  have hb := macBack_ok h
  have hp : printRes (macBack m).body = printRes m.body := print_same (body_toks hb) (body_toks h) (by
    show prTo (readBack m.body) (readBack m.body).length = _
    rw [readBack_len]; exact prTo_back _ _ (Nat.le_refl _))
  have hh : headOf (macBack m) = headOf m := by unfold headOf; rw [hdTo_back]; rfl
  have hl : (macBack m).body.length = m.body.length := readBack_len _
  have ho : macOut (macBack m) = macOut m := by unfold macOut; rw [hh, hp, hl]
  unfold macText
  rw [if_pos hb, if_pos h, hp, ho]
/-- The text of a macro is read as one with the same name, parameters and texts of its body. -/
theorem mac_reads {m : DMacro} {s : ByteArray} (h : macText m = (s, true)) : ∃ l, tokRes s = (l, true) ∧ macOf l = (macBack m, true) := by
  have hv : macOk m = true := by
    cases hv : macOk m
    · unfold macText at h; rw [hv, if_neg (by simp)] at h; simp at h
    · rfl
  obtain ⟨⟨f1, f2, f3, f4, f5⟩, f6, f7⟩ := macOk_facts hv
  have hT := macL_ok hv
  have hHl := headL_len hv
  have hLl := macL_len m
  have hprint : prTo (macL m) (macL m).length = if 0 < m.body.length then headOf m ++ ⟨#[32]⟩ ++ prTo m.body m.body.length else headOf m := by
    rw [hLl]; exact macL_print hv _ (Nat.le_refl _)
  unfold macText at h
  rw [if_pos hv] at h
  split at h
  · simp at h
  · rename_i hn
    rw [not_or] at hn
    obtain ⟨hn1, hn2⟩ := hn
    simp only [Prod.mk.injEq, and_true] at h
    have hpr : printRes m.body = (prTo m.body m.body.length, true) := by
      have h2 : (printRes m.body).2 = true := by simpa using hn1
      unfold printRes at h2 ⊢
      split
      · split
        · rename_i h3 h4; rw [if_pos h3, if_pos h4] at h2; simp at h2
        · rfl
      · rename_i h3; rw [if_neg h3] at h2; simp at h2
    have hout : macOut m = prTo (macL m) (macL m).length := by
      rw [hprint]; unfold macOut; rw [hpr]
    rw [hout] at h hn2
    have hback := print_back hT (by omega)
    rw [h] at hback
    refine ⟨_, hback, ?_⟩
    have hok := tokRes_valid hback
    have h0 : 0 < (macL m).length := by omega
    obtain ⟨g0, r0⟩ := back_get m h0
    have e0 : (macL m)[0] = nameT m.name := by
      rw [macL_head m hHl.1 h0]
      unfold headL
      split
      · obtain ⟨h1, h2⟩ := get_some (hL_first m m.params.length).1
        rw [List.getElem_append_left h1]; exact h2
      · rfl
    -- the body
    have hbody : bodyFrom (readBack (macL m)) (headL m).length = readBack m.body := by
      have hbl : (bodyFrom (readBack (macL m)) (headL m).length).length = m.body.length := by
        rw [bodyFrom_len, readBack_len]; omega
      refine List.ext_getElem (by rw [hbl, readBack_len]) fun k h1 h2 => ?_
      have h3 : k < m.body.length := by omega
      have hj : (headL m).length + k < (macL m).length := by omega
      obtain ⟨g1, r1⟩ := back_get m hj
      have e1 := macL_body m (j := (headL m).length + k) rfl h3 hj
      have hg := macL_gap hv h3
      rw [bodyFrom_get, r1, e1, hg, readBack_get]
      by_cases h0 : k = 0
      · subst h0; simp [gap_zero]
      · rw [if_neg h0, decide_eq_true (by omega : 0 < k), Bool.and_true]
    have hb1 := macBack_ok hv
    unfold macOf
    rw [dif_pos ⟨hok, by rw [readBack_len]; exact h0⟩]
    cases hf : m.function
    · have hp : m.params = [] := by rcases f4 with h | h; rw [hf] at h; simp at h; exact h
      have hh : (headL m).length = 1 := by unfold headL; rw [hf]; rfl
      have ho : opens2 (readBack (macL m)) = false := by
        unfold opens2
        split
        · rename_i h1
          rw [readBack_len] at h1
          have hj : 0 < m.body.length := by omega
          have hg := macL_gap hv hj
          rw [hh, if_pos rfl] at hg
          obtain ⟨g1, r1⟩ := back_get m h1
          rw [r1, hg]; simp
        · rfl
      rw [ho, if_neg (by simp), r0, e0]
      show macChk ⟨m.name, false, [], bodyFrom (readBack (macL m)) 1⟩ = _
      have e : (⟨m.name, false, [], bodyFrom (readBack (macL m)) 1⟩ : DMacro) = macBack m := by
        unfold macBack; rw [hf, hp, ← hbody, hh]
      rw [e]
      unfold macChk
      rw [if_pos hb1]
    · have hlen := headL_flen hf
      have h1 : 1 < (macL m).length := by rw [hLl, hlen]; split <;> omega
      obtain ⟨_, e1⟩ := macL_at (m := m) (i := 1) (t := markT 40) (by
        have h2 : 2 ≤ (hL m m.params.length).length := by rw [hL_len]; split <;> omega
        rw [headL_fun hf, List.getElem?_append_left (by omega)]; exact (hL_first m _).2)
      have hg : gap (macL m) 1 = false := by
        unfold gap
        rw [dif_pos ⟨by omega, h1⟩, e1]
        show ((markT 40).spaced || glued (macL m)[0].text _) = false
        rw [e0]
        exact glue_name f1 (.inl rfl)
      obtain ⟨g1, r1⟩ := back_get m h1
      have ho : opens2 (readBack (macL m)) = true := by
        unfold opens2
        rw [dif_pos g1, r1, e1, hg]; rfl
      have hpo : parsOf (readBack (macL m)) = some (m.params, (headL m).length) := by
        unfold parsOf
        by_cases hz : 0 < m.params.length
        · rw [if_pos hz] at hlen
          have hn : 0 < m.params.length := hz
          obtain ⟨h2, e2⟩ := macL_at (m := m) (i := 2) (t := nameT m.params[0]) (by
            rw [headL_fun hf, List.getElem?_append_left (by rw [hL_len, if_pos hz]; omega)]
            exact (hL_at m _ (Nat.le_refl _) 0 hn hn).1)
          obtain ⟨g2, r2⟩ := back_get m h2
          rw [dif_pos g2, r2, e2, if_neg (by rintro ⟨_, h⟩; revert h; show ¬ (1 : Int) = 4; decide)]
          have := pars_read hf (m.params.length - 1) 0 (by omega)
          rw [List.drop_zero] at this
          exact this
        · have hp : m.params = [] := List.length_eq_zero_iff.1 (by omega)
          rw [if_neg hz] at hlen
          obtain ⟨h2, e2⟩ := macL_at (m := m) (i := 2) (t := markT 41) (by
            rw [headL_fun hf, List.getElem?_append_right (by rw [hL_len, if_neg hz]; omega), hL_len, if_neg hz]; rfl)
          obtain ⟨g2, r2⟩ := back_get m h2
          rw [dif_pos g2, r2, e2, if_pos ⟨rfl, rfl⟩, hp, hlen]
      rw [ho, if_pos rfl, hpo, r0, e0]
      show macChk ⟨m.name, true, m.params, bodyFrom (readBack (macL m)) (headL m).length⟩ = _
      have e : (⟨m.name, true, m.params, bodyFrom (readBack (macL m)) (headL m).length⟩ : DMacro) = macBack m := by
        unfold macBack; rw [hf, ← hbody]
      rw [e]
      unfold macChk
      rw [if_pos hb1]

/-! ### What the other promises ask -/
theorem macOf_ok {l : List Tok} {m : DMacro} (h : macOf l = (m, true)) : macOk m = true := by
  have hc : ∀ x : DMacro, macChk x = (m, true) → macOk m = true := fun x hx => by
    unfold macChk at hx
    split at hx
    · rename_i h1
      simp only [Prod.mk.injEq, and_true] at hx
      rw [← hx]; exact h1
    · simp at hx
  unfold macOf at h
  split at h
  · split at h
    · split at h
      · exact hc _ h
      · simp at h
    · exact hc _ h
  · simp at h
theorem macOf_no {l : List Tok} {m : DMacro} (h : macOf l = (m, false)) : m = zeroMac := by
  have hc : ∀ x : DMacro, macChk x = (m, false) → m = zeroMac := fun x hx => by
    unfold macChk at hx
    split at hx
    · simp at hx
    · simp only [Prod.mk.injEq, and_true] at hx; exact hx.symm
  unfold macOf at h
  split at h
  · split at h
    · split at h
      · exact hc _ h
      · simp only [Prod.mk.injEq, and_true] at h; exact h.symm
    · exact hc _ h
  · simp only [Prod.mk.injEq, and_true] at h; exact h.symm
theorem macText_no {m : DMacro} {s : ByteArray} (h : macText m = (s, false)) : s = ⟨#[]⟩ := by
  unfold macText at h
  split at h
  · split at h
    · simp only [Prod.mk.injEq, and_true] at h; exact h.symm
    · simp at h
  · simp only [Prod.mk.injEq, and_true] at h; exact h.symm
theorem macText_size {m : DMacro} : (macText m).1.size ≤ 200 := by
  unfold macText
  split
  · split
    · show (0 : Nat) ≤ 200; omega
    · rename_i h; rw [not_or] at h; show (macOut m).size ≤ 200; omega
  · show (0 : Nat) ≤ 200; omega
/-- A number is no name. -/
theorem digit_no {c : UInt8} (hc : isDig c = true) (m : DMacro) (h : m.name = (⟨#[c]⟩ : ByteArray)) : macOk m = false := by
  cases hm : macOk m
  · rfl
  · have h1 := (macOk_facts hm).1.1
    rw [h] at h1
    obtain ⟨_, hk⟩ := (tokOk_facts (nameT_ok h1)).1
    have hk' : (1 : Int) = cutKind c := hk
    unfold cutKind at hk'
    rw [if_pos hc] at hk'
    omega
theorem macOk_bare {m : DMacro} (h : macOk m = true) : macOk ⟨m.name, false, [], []⟩ = true := by
  obtain ⟨⟨f1, f2, _⟩, _⟩ := macOk_facts h
  unfold macOk macHead
  simp [f1, f2]

end Go.Proofs.Ytigbaeokccknaaa
