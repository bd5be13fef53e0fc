/- Texts that the proof of U stands on, in one file. -/
import Derived.Test.YtbkmapaieillmaaZU10
import Derived.Test.YtbkmapaieillmaaZU6
import Derived.Test.YtbkmapaieillmaaZU8
import Derived.Test.YtbkmapaieillmaaZU5
import Derived.Test.YtbkmapaieillmaaZU1
import Derived.Test.YtbkmapaieillmaaZU4
import Derived.Test.YtbkmapaieillmaaZU3
set_option linter.unusedVariables false
set_option linter.unusedSimpArgs false
/- Names are drawn, and tables with names. -/
namespace Go.Proofs.Ytbkmapaieillmaa
open Go.RowKit

def wd_texts : Array Value := #[.string ⟨#[97]⟩, .string ⟨#[98]⟩, .string ⟨#[102]⟩, .string ⟨#[103]⟩, .string ⟨#[65, 66]⟩, .string ⟨#[122, 122]⟩, .string ⟨#[100, 101, 102, 105, 110, 101, 100]⟩, .string ⟨#[49]⟩]
theorem wd_text {k : Nat} (h : k < 8) : ∃ s : ByteArray, s.size ≤ 10 ∧ wd_texts[k]? = some (.string s) := by
  rcases (show k = 0 ∨ k = 1 ∨ k = 2 ∨ k = 3 ∨ k = 4 ∨ k = 5 ∨ k = 6 ∨ k = 7 by omega) with rfl | rfl | rfl | rfl | rfl | rfl | rfl | rfl <;> exact ⟨_, by decide, rfl⟩
theorem wd_num {r : Int} (h0 : 0 ≤ r) (h1 : r < 10) : ∃ k : Nat, k < 8 ∧ (#[.int .i64 0, .int .i64 0, .int .i64 1, .int .i64 1, .int .i64 2, .int .i64 3, .int .i64 4, .int .i64 5, .int .i64 6, .int .i64 7] : Array Value)[r.toNat]? = some (.int .i64 (k : Int)) := by
  rcases (show r = 0 ∨ r = 1 ∨ r = 2 ∨ r = 3 ∨ r = 4 ∨ r = 5 ∨ r = 6 ∨ r = 7 ∨ r = 8 ∨ r = 9 by omega) with rfl | rfl | rfl | rfl | rfl | rfl | rfl | rfl | rfl | rfl
  · exact ⟨0, by decide, rfl⟩
  · exact ⟨0, by decide, rfl⟩
  · exact ⟨1, by decide, rfl⟩
  · exact ⟨1, by decide, rfl⟩
  · exact ⟨2, by decide, rfl⟩
  · exact ⟨3, by decide, rfl⟩
  · exact ⟨4, by decide, rfl⟩
  · exact ⟨5, by decide, rfl⟩
  · exact ⟨6, by decide, rfl⟩
  · exact ⟨7, by decide, rfl⟩
set_option maxHeartbeats 4000000 in
theorem l20Word (rb p : Nat) (w : World) (H : Rd w rb p) (hp : p ≤ 100000) :
    Calls Try.prog 42 #[.pointer (some ⟨rb, 0, none⟩)] w fun e w' => ∃ (s : ByteArray) (q : Nat), e = .returned (.string s) ∧ s.size ≤ 10 ∧ q ≤ p + 1 ∧ Rd w' rb q ∧ Kept [rb] w w' := by
  have hlt := H.lt
  have b0 := alloc_below' w (.cells #[.string ⟨#[97]⟩, .string ⟨#[98]⟩, .string ⟨#[102]⟩, .string ⟨#[103]⟩, .string ⟨#[65, 66]⟩, .string ⟨#[122, 122]⟩, .string ⟨#[100, 101, 102, 105, 110, 101, 100]⟩, .string ⟨#[49]⟩] 9)
  have b1 := b0.trans ((alloc_below' (w.alloc (.cells #[.string ⟨#[97]⟩, .string ⟨#[98]⟩, .string ⟨#[102]⟩, .string ⟨#[103]⟩, .string ⟨#[65, 66]⟩, .string ⟨#[122, 122]⟩, .string ⟨#[100, 101, 102, 105, 110, 101, 100]⟩, .string ⟨#[49]⟩] 9)) (.cells #[.int .i64 0, .int .i64 0, .int .i64 1, .int .i64 1, .int .i64 2, .int .i64 3, .int .i64 4, .int .i64 5, .int .i64 6, .int .i64 7] 3)).mono b0.size)
  have HX := Lib.hid (alloc2_blk w #[.string ⟨#[97]⟩, .string ⟨#[98]⟩, .string ⟨#[102]⟩, .string ⟨#[103]⟩, .string ⟨#[65, 66]⟩, .string ⟨#[122, 122]⟩, .string ⟨#[100, 101, 102, 105, 110, 101, 100]⟩, .string ⟨#[49]⟩] #[.int .i64 0, .int .i64 0, .int .i64 1, .int .i64 1, .int .i64 2, .int .i64 3, .int .i64 4, .int .i64 5, .int .i64 6, .int .i64 7] 9 3)
  have HR := Lib.hid (H.grow b1)
  have HK := Lib.hid (Kept.of_below (fp := [rb]) b1)
  clear b0 b1 H
  go_enter Try.func42, Try.ntmps42
  go_wp2_with fail
  refine (pick rb p _ _ HR.out (by omega) (by omega) (by omega)).mono ?_
  rintro e w2 ⟨r, rfl, h0, h1, hR2, hK2⟩
  obtain ⟨k, hk, hc⟩ := wd_num h0 (show r < 10 by omega)
  obtain ⟨s, hs, hc2⟩ := wd_text hk
  have g1 : w2.cell? ⟨w.heap.size + 1, r.toNat, none⟩ = some (.int .i64 (k : Int)) := (cell_of_row _ _ _ _ _ _ (blkKept HX.out.2 hK2 (by omega))).trans hc
  have g0 : w2.cell? ⟨w.heap.size, k, none⟩ = some (.string s) := (cell_of_row _ _ _ _ _ _ (blkKept HX.out.1 hK2 (by omega))).trans hc2
  have HKF := Lib.hid (HK.out.trans hK2)
  have HRF := Lib.hid hR2
  have hk1 : (0 : Int) ≤ (k : Int) := by omega
  have hk2 : (k : Int) < 8 := by omega
  clear HX HR HK hK2 hR2 hc hc2
  go_wp2
  go_ret
  exact ⟨s, p + 1, rfl, hs, by omega, HRF.out, HKF.out⟩

end Go.Proofs.Ytbkmapaieillmaa

/- Texts of tokens: no program. -/
namespace Go.Proofs.Ytbkmapaieillmaa
open Go.RowKit

def bs (s : ByteArray) : List UInt8 := s.data.toList
theorem bs_len (s : ByteArray) : (bs s).length = s.size := rfl
theorem bs_app (a b : ByteArray) : bs (a ++ b) = bs a ++ bs b := by simp [bs]
theorem bs_ext {a b : ByteArray} (h : bs a = bs b) : a = b := ByteArray.ext (Array.ext' h)
theorem bs_get {s : ByteArray} {k : Nat} (h : k < s.size) : (bs s)[k]'(by rw [bs_len]; exact h) = s[k] := by simp [bs, ByteArray.getElem_eq_getElem_data]
theorem bs_at {s : ByteArray} {k : Nat} {c : UInt8} {r : List UInt8} (h : (bs s).drop k = c :: r) : ∃ hk : k < s.size, s[k] = c ∧ (bs s).drop (k + 1) = r := by
  have hk : k < s.size := by
    apply Nat.lt_of_not_le; intro hn
    rw [List.drop_eq_nil_of_le (by rw [bs_len]; exact hn)] at h
    exact absurd h (by simp)
  rw [List.drop_eq_getElem_cons (by rw [bs_len]; exact hk), List.cons.injEq, bs_get hk] at h
  exact ⟨hk, h⟩
theorem ex_one {s : ByteArray} {k : Nat} (h : k < s.size) : s.extract k (k + 1) = ⟨#[s[k]]⟩ := by
  have hz : (s.extract k (k + 1)).size = 1 := by rw [ByteArray.size_extract]; omega
  refine bAt_ext (by rw [hz]; rfl) fun j hj => ?_
  obtain rfl : j = 0 := by omega
  rw [bAt_sub (by omega) (by omega), Nat.add_zero, bAt_lt h]; rfl

/-- A text with backslashes, and what it stands for. -/
inductive Esc : List UInt8 → List UInt8 → Prop
  | nil : Esc [] []
  | back (c : UInt8) {a b : List UInt8} : Esc a b → Esc (92 :: c :: a) (c :: b)
  | byte {c : UInt8} {a b : List UInt8} : c.toNat ≠ 34 → c.toNat ≠ 92 → Esc a b → Esc (c :: a) (c :: b)
theorem Esc.app {a b c d : List UInt8} (h : Esc a b) (h2 : Esc c d) : Esc (a ++ c) (b ++ d) := by
  induction h with
  | nil => exact h2
  | back c _ ih => exact .back c ih
  | byte h1 h3 _ ih => exact .byte h1 h3 ih
theorem Esc.plain {a : List UInt8} (h : ∀ c ∈ a, c.toNat ≠ 34 ∧ c.toNat ≠ 92) : Esc a a := by
  induction a with
  | nil => exact .nil
  | cons c a ih => exact .byte (h c (by simp)).1 (h c (by simp)).2 (ih fun d hd => h d (by simp [hd]))

/-- What a text stands for, from the place k on. -/
def outTo (s : ByteArray) (k : Nat) : ByteArray :=
  if h : k + 1 < s.size then (if s[k].toNat = 92 then s.extract (k + 1) (k + 2) ++ outTo s (k + 2) else s.extract k (k + 1) ++ outTo s (k + 1)) else ⟨#[]⟩
termination_by s.size - k
theorem outTo_back {s : ByteArray} {k : Nat} (h : k + 1 < s.size) (hc : s[k].toNat = 92) : outTo s k = s.extract (k + 1) (k + 2) ++ outTo s (k + 2) := by rw [outTo, dif_pos h, if_pos hc]
theorem outTo_else {s : ByteArray} {k : Nat} (h : k + 1 < s.size) (hc : ¬ s[k].toNat = 92) : outTo s k = s.extract k (k + 1) ++ outTo s (k + 1) := by rw [outTo, dif_pos h, if_neg hc]
theorem outTo_end {s : ByteArray} {k : Nat} (h : s.size ≤ k + 1) : outTo s k = ⟨#[]⟩ := by rw [outTo, dif_neg (by omega)]
theorem emp_size : (⟨#[]⟩ : ByteArray).size = 0 := rfl
theorem outTo_size (s : ByteArray) (k : Nat) : (outTo s k).size ≤ s.size - 1 - k := by
  induction k using outTo.induct (s := s) with
  | case1 k h hc ih =>
    rw [outTo_back h hc, ByteArray.size_append, ByteArray.size_extract]
    by_cases h2 : k + 2 < s.size
    · omega
    · rw [outTo_end (by omega), emp_size]; omega
  | case2 k h hc ih => rw [outTo_else h hc, ByteArray.size_append, ByteArray.size_extract]; omega
  | case3 k h => rw [outTo_end (by omega)]; exact Nat.zero_le _
theorem esc_scan {a b : List UInt8} (h : Esc a b) : ∀ {s : ByteArray} {k : Nat}, (bs s).drop k = a ++ [34] → tClose s k = some s.size ∧ bs (outTo s k) = b := by
  induction h with
  | nil =>
    intro s k hd
    obtain ⟨hk, hc, hr⟩ := bs_at hd
    have hz : s.size ≤ k + 1 := by rw [List.drop_eq_nil_iff, bs_len] at hr; exact hr
    refine ⟨?_, by rw [outTo_end hz]; rfl⟩
    rw [tClose_quote hk (by rw [hc]; rfl)]; congr 1; omega
  | @back c a b _ ih =>
    intro s k hd
    obtain ⟨hk, hc, hr⟩ := bs_at hd
    obtain ⟨hk1, hc1, hr1⟩ := bs_at hr
    obtain ⟨i1, i2⟩ := ih hr1
    refine ⟨?_, ?_⟩
    · rw [tClose_back hk (by rw [hc]; rfl)]; exact i1
    · rw [outTo_back hk1 (by rw [hc]; rfl), bs_app, i2, ex_one hk1, hc1]; rfl
  | @byte c a b h1 h2 _ ih =>
    intro s k hd
    obtain ⟨hk, hc, hr⟩ := bs_at hd
    obtain ⟨i1, i2⟩ := ih hr
    have hk1 : k + 1 < s.size := by
      have := congrArg List.length hr
      rw [List.length_drop, bs_len] at this
      simp at this; omega
    refine ⟨?_, ?_⟩
    · rw [tClose_else hk (by rw [hc]; exact h1) (by rw [hc]; exact h2)]; exact i1
    · rw [outTo_else hk1 (by rw [hc]; exact h2), bs_app, i2, ex_one hk, hc]; rfl

/-- A byte that wants a backslash in a text of texts. -/
def isQ (c : UInt8) : Bool := decide (c.toNat = 34) || decide (c.toNat = 92)
def escTo (s : ByteArray) : Nat → ByteArray
  | 0 => ⟨#[]⟩
  | k + 1 => if h : k < s.size then (if isQ s[k] = true then escTo s k ++ ⟨#[92]⟩ else escTo s k) ++ s.extract k (k + 1) else escTo s k
theorem escTo_q {s : ByteArray} {k : Nat} (h : k < s.size) (hc : isQ s[k] = true) : escTo s (k + 1) = escTo s k ++ ⟨#[92]⟩ ++ s.extract k (k + 1) := by rw [escTo, dif_pos h, if_pos hc]
theorem escTo_n {s : ByteArray} {k : Nat} (h : k < s.size) (hc : isQ s[k] = false) : escTo s (k + 1) = escTo s k ++ s.extract k (k + 1) := by rw [escTo, dif_pos h, if_neg (by simp [hc])]
theorem escTo_esc (s : ByteArray) : ∀ k, k ≤ s.size → Esc (bs (escTo s k)) ((bs s).take k)
  | 0, _ => by rw [List.take_zero]; exact .nil
  | k + 1, hk => by
    have ih := escTo_esc s k (by omega)
    have hk' : k < s.size := by omega
    rw [List.take_succ_eq_append_getElem (by rw [bs_len]; exact hk'), bs_get hk']
    cases hc : isQ s[k]
    · rw [escTo_n hk' hc, bs_app, ex_one hk']
      unfold isQ at hc
      simp only [Bool.or_eq_false_iff, decide_eq_false_iff_not] at hc
      exact ih.app (.byte hc.1 hc.2 .nil)
    · rw [escTo_q hk' hc, bs_app, bs_app, ex_one hk', List.append_assoc]
      exact ih.app (.back _ .nil)
theorem escTo_size (s : ByteArray) : ∀ k, (escTo s k).size ≤ 2 * k
  | 0 => by show (0 : Nat) ≤ _; omega
  | k + 1 => by
    have ih := escTo_size s k
    by_cases hk : k < s.size
    · have h1 : (⟨#[92]⟩ : ByteArray).size = 1 := rfl
      cases hc : isQ s[k]
      · rw [escTo_n hk hc, ByteArray.size_append, ByteArray.size_extract]; omega
      · rw [escTo_q hk hc, ByteArray.size_append, ByteArray.size_append, ByteArray.size_extract]; omega
    · rw [escTo, dif_neg hk]; omega
theorem ok_one {c : UInt8} (h : okByte c = true) : AllOk ⟨#[c]⟩ := fun j d hd => by
  obtain ⟨hj, rfl⟩ := bAt_some hd
  obtain rfl : j = 0 := by have : j < 1 := hj; omega
  exact h
theorem escTo_ok {s : ByteArray} (h : AllOk s) : ∀ k, k ≤ s.size → AllOk (escTo s k)
  | 0, _ => fun j c hc => by obtain ⟨hj, _⟩ := bAt_some hc; exact absurd hj (by show ¬ j < 0; omega)
  | k + 1, hk => by
    have ih := escTo_ok h k (by omega)
    have hk' : k < s.size := by omega
    have hx : AllOk (s.extract k (k + 1)) := by rw [ex_one hk']; exact ok_one (h k _ (bAt_lt hk'))
    cases hc : isQ s[k]
    · rw [escTo_n hk' hc]; exact ih.app hx
    · rw [escTo_q hk' hc]; exact (ih.app (ok_one (by decide))).app hx

/-- A token's text in a text of texts. -/
def bit (t : Tok) : ByteArray := if t.kind = 3 then escTo t.text t.text.size else t.text
def joinTo (l : List Tok) : Nat → ByteArray
  | 0 => ⟨#[]⟩
  | k + 1 => if h : k < l.length then (if 0 < k ∧ l[k].spaced = true then joinTo l k ++ ⟨#[32]⟩ else joinTo l k) ++ bit l[k] else joinTo l k
def rawTo (l : List Tok) : Nat → ByteArray
  | 0 => ⟨#[]⟩
  | k + 1 => if h : k < l.length then (if 0 < k ∧ l[k].spaced = true then rawTo l k ++ ⟨#[32]⟩ else rawTo l k) ++ l[k].text else rawTo l k
theorem joinTo_sp {l : List Tok} {k : Nat} (hk : k < l.length) (h0 : 0 < k) (h : l[k].spaced = true) : joinTo l (k + 1) = joinTo l k ++ ⟨#[32]⟩ ++ bit l[k] := by rw [joinTo, dif_pos hk, if_pos ⟨h0, h⟩]
theorem joinTo_no {l : List Tok} {k : Nat} (hk : k < l.length) (h : ¬ (0 < k ∧ l[k].spaced = true)) : joinTo l (k + 1) = joinTo l k ++ bit l[k] := by rw [joinTo, dif_pos hk, if_neg h]
theorem rawTo_sp {l : List Tok} {k : Nat} (hk : k < l.length) (h0 : 0 < k) (h : l[k].spaced = true) : rawTo l (k + 1) = rawTo l k ++ ⟨#[32]⟩ ++ l[k].text := by rw [rawTo, dif_pos hk, if_pos ⟨h0, h⟩]
theorem rawTo_no {l : List Tok} {k : Nat} (hk : k < l.length) (h : ¬ (0 < k ∧ l[k].spaced = true)) : rawTo l (k + 1) = rawTo l k ++ l[k].text := by rw [rawTo, dif_pos hk, if_neg h]
/-- A token that is no text has no quote and no backslash. -/
theorem kind3 {c : UInt8} (h : cutKind c = 3) : isWord c = false ∧ c.toNat = 34 := by
  unfold cutKind at h
  cases hd : isDig c
  · cases hl : isLet c
    · rw [hd, hl] at h
      by_cases hq : c.toNat = 34
      · exact ⟨by unfold isWord; rw [hd, hl]; rfl, hq⟩
      · rw [if_neg (by simp), if_neg (by simp), if_neg hq] at h; omega
    · rw [hd, hl] at h; simp at h
  · rw [hd] at h; simp at h
theorem word_bytes {s : ByteArray} (d : Nat) : ∀ k, wEnd s k = k + d → ∀ j, (h : j < s.size) → k ≤ j → j < k + d → isWord s[j] = true := by
  induction d with
  | zero => intro k _ j _ h1 h2; omega
  | succ d ih =>
    intro k h j hj h1 h2
    have hk : k < s.size := by omega
    have hw : isWord s[k] = true := by
      cases hw : isWord s[k]
      · rw [wEnd_stop hk hw] at h; omega
      · rfl
    by_cases e : j = k
    · subst e; exact hw
    · rw [wEnd_in hk hw] at h
      exact ih (k + 1) (by omega) j hj (by omega) (by omega)
theorem word_plain {c : UInt8} (h : isWord c = true) : c.toNat ≠ 34 ∧ c.toNat ≠ 92 := by rw [isWord_iff] at h; omega
theorem marks_plain {c : UInt8} (h : c ∈ marks1) : c.toNat ≠ 34 ∧ c.toNat ≠ 92 := by
  have : ∀ d ∈ marks1, d.toNat ≠ 34 ∧ d.toNat ≠ 92 := by decide
  exact this c h
theorem two_bytes {s : ByteArray} {k : Nat} (h : twoAt s k = true) : ∀ j, (hj : j < s.size) → k ≤ j → j < k + 2 → s[j].toNat ≠ 34 ∧ s[j].toNat ≠ 92 := by
  intro j hj h1 h2
  unfold twoAt at h
  simp only [two_bAt, Bool.or_eq_true, Bool.and_eq_true, decide_eq_true_eq] at h
  by_cases e : j = k
  · subst e
    rw [bAt_lt hj] at h
    simp only [Option.some.injEq] at h
    rcases h with (((((h | h) | h) | h) | h) | h) | h <;> (rw [h.1]; decide)
  · obtain rfl : j = k + 1 := by omega
    rw [bAt_lt hj] at h
    simp only [Option.some.injEq] at h
    rcases h with (((((h | h) | h) | h) | h) | h) | h <;> (rw [h.2]; decide)
theorem tok_plain {t : Tok} (h : tokOk t = true) (h3 : t.kind ≠ 3) : ∀ c ∈ bs t.text, c.toNat ≠ 34 ∧ c.toNat ≠ 92 := by
  obtain ⟨h0, _, hc, _⟩ := tokOk_cut h
  obtain ⟨⟨_, hk⟩, _⟩ := tokOk_facts h
  intro c hm
  obtain ⟨j, hj, rfl⟩ := List.getElem_of_mem hm
  rw [bs_len] at hj
  rw [bs_get hj]
  cases hw : isWord t.text[0]
  · by_cases hq : t.text[0].toNat = 34
    · refine absurd ?_ h3
      rw [hk]
      unfold isWord at hw
      rw [Bool.or_eq_false_iff] at hw
      unfold cutKind
      rw [hw.1, hw.2, if_neg (by simp), if_neg (by simp), if_pos hq]
    · rw [cutEnd_mark h0 hw hq] at hc
      split at hc
      · omega
      · rename_i hm0
        have hms : mLen t.text 0 = t.text.size := by omega
        unfold mLen at hms
        split at hms
        · rename_i ht
          exact two_bytes ht j hj (by omega) (by omega)
        · skip
          split at hms
          · rename_i hin
            obtain rfl : j = 0 := by omega
            exact marks_plain hin
          · omega
  · rw [cutEnd_word h0 hw] at hc
    split at hc
    · omega
    · exact word_plain (word_bytes (t.text.size) 0 (by omega) j hj (by omega) (by omega))
theorem tok_esc {t : Tok} (h : tokOk t = true) : Esc (bs (bit t)) (bs t.text) := by
  unfold bit
  split
  · have := escTo_esc t.text t.text.size (Nat.le_refl _)
    rwa [List.take_of_length_le (by rw [bs_len]; exact Nat.le_refl _)] at this
  · rename_i h3; exact .plain (tok_plain h h3)
theorem esc_space : Esc (bs ⟨#[32]⟩) (bs ⟨#[32]⟩) := .plain (by intro c hc; have : c = 32 := by simpa [bs] using hc
                                                                subst this; decide)
theorem join_esc {l : List Tok} (h : toksOk l = true) : ∀ k, k ≤ l.length → Esc (bs (joinTo l k)) (bs (rawTo l k))
  | 0, _ => .nil
  | k + 1, hk => by
    have ih := join_esc h k (by omega)
    have hk' : k < l.length := by omega
    have ht := tok_esc ((toksOk_facts h).2 k hk')
    by_cases hs : 0 < k ∧ l[k].spaced = true
    · rw [joinTo_sp hk' hs.1 hs.2, rawTo_sp hk' hs.1 hs.2, bs_app, bs_app, bs_app, bs_app]
      exact (ih.app esc_space).app ht
    · rw [joinTo_no hk' hs, rawTo_no hk' hs, bs_app, bs_app]
      exact ih.app ht
theorem bit_size (t : Tok) : (bit t).size ≤ 2 * t.text.size := by
  unfold bit; split
  · exact escTo_size _ _
  · omega
theorem joinTo_size {l : List Tok} (h : toksOk l = true) : ∀ k, k ≤ l.length → (joinTo l k).size ≤ 401 * k
  | 0, _ => by show (0 : Nat) ≤ _; omega
  | k + 1, hk => by
    have ih := joinTo_size h k (by omega)
    have hk' : k < l.length := by omega
    have h2 := (tokOk_facts ((toksOk_facts h).2 k hk')).2
    have h3 := bit_size l[k]
    have h1 : (⟨#[32]⟩ : ByteArray).size = 1 := rfl
    by_cases hs : 0 < k ∧ l[k].spaced = true
    · rw [joinTo_sp hk' hs.1 hs.2, ByteArray.size_append, ByteArray.size_append]; omega
    · rw [joinTo_no hk' hs, ByteArray.size_append]; omega
theorem bit_ok {t : Tok} (h : tokOk t = true) : AllOk (bit t) := by
  have hx := AllOk.of (tokOk_cut h).2.2.2
  unfold bit; split
  · exact escTo_ok hx _ (Nat.le_refl _)
  · exact hx
theorem join_ok {l : List Tok} (h : toksOk l = true) : ∀ k, k ≤ l.length → AllOk (joinTo l k)
  | 0, _ => fun j c hc => by obtain ⟨hj, _⟩ := bAt_some hc; exact absurd hj (by show ¬ j < 0; omega)
  | k + 1, hk => by
    have ih := join_ok h k (by omega)
    have hk' : k < l.length := by omega
    have hx := bit_ok ((toksOk_facts h).2 k hk')
    by_cases hs : 0 < k ∧ l[k].spaced = true
    · rw [joinTo_sp hk' hs.1 hs.2]; exact (ih.app (ok_one (by decide))).app hx
    · rw [joinTo_no hk' hs]; exact ih.app hx

def quoted (x : ByteArray) : ByteArray := ⟨#[34]⟩ ++ x ++ ⟨#[34]⟩
theorem quoted_size (x : ByteArray) : (quoted x).size = x.size + 2 := by
  have h1 : (⟨#[34]⟩ : ByteArray).size = 1 := rfl
  unfold quoted; rw [ByteArray.size_append, ByteArray.size_append]; omega
theorem quoted_bs (x : ByteArray) : bs (quoted x) = 34 :: (bs x ++ [34]) := by unfold quoted; rw [bs_app, bs_app]; rfl
def zTok : Tok := ⟨0, ⟨#[]⟩, false, []⟩
def txtRes (l : List Tok) : Tok × Bool := if toksOk l = true then (if 200 < (quoted (joinTo l l.length)).size then (zTok, false) else (⟨3, quoted (joinTo l l.length), false, []⟩, true)) else (zTok, false)
theorem txtRes_no {l : List Tok} (h : toksOk l = false) : txtRes l = (zTok, false) := by unfold txtRes; rw [if_neg (by simp [h])]
theorem txtRes_long {l : List Tok} {k : Nat} (h : toksOk l = true) (hk : l.length = k) (h2 : 200 < (quoted (joinTo l k)).size) : txtRes l = (zTok, false) := by unfold txtRes; rw [if_pos h, hk, if_pos h2]
theorem txtRes_yes {l : List Tok} {k : Nat} (h : toksOk l = true) (hk : l.length = k) (h2 : ¬ 200 < (quoted (joinTo l k)).size) : txtRes l = (⟨3, quoted (joinTo l k), false, []⟩, true) := by unfold txtRes; rw [if_pos h, hk, if_neg h2]
def bytesRes (t : Tok) : ByteArray × Bool := if tokOk t = true ∧ t.kind = 3 then (outTo t.text 1, true) else (⟨#[]⟩, false)
theorem bytesRes_no {t : Tok} (h : tokOk t = false) : bytesRes t = (⟨#[]⟩, false) := by unfold bytesRes; rw [if_neg (by simp [h])]
theorem bytesRes_kind {t : Tok} (h : t.kind ≠ 3) : bytesRes t = (⟨#[]⟩, false) := by unfold bytesRes; rw [if_neg (by simp [h])]
theorem bytesRes_yes {t : Tok} (h : tokOk t = true) (h3 : t.kind = 3) : bytesRes t = (outTo t.text 1, true) := by unfold bytesRes; rw [if_pos ⟨h, h3⟩]
theorem bytesRes_true {t : Tok} {x : ByteArray} (h : bytesRes t = (x, true)) : tokOk t = true ∧ t.kind = 3 ∧ x = outTo t.text 1 := by
  unfold bytesRes at h
  split at h
  · rename_i hh; simp at h; exact ⟨hh.1, hh.2, h.symm⟩
  · simp at h
theorem txtRes_true {l : List Tok} {t : Tok} (h : txtRes l = (t, true)) : toksOk l = true ∧ (quoted (joinTo l l.length)).size ≤ 200 ∧ t = ⟨3, quoted (joinTo l l.length), false, []⟩ := by
  unfold txtRes at h
  split at h
  · rename_i hv
    split at h
    · simp at h
    · simp at h; exact ⟨hv, by omega, h.symm⟩
  · simp at h
/-- A text of texts is a token, and stands for their texts. -/
theorem txt_back {l : List Tok} {t : Tok} (h : txtRes l = (t, true)) : tokOk t = true ∧ bytesRes t = (rawTo l l.length, true) := by
  obtain ⟨hv, hz, rfl⟩ := txtRes_true h
  have hE := join_esc hv l.length (Nat.le_refl _)
  generalize hJ : joinTo l l.length = J at hE hz
  have hb := quoted_bs J
  obtain ⟨hc, ho⟩ := esc_scan hE (s := quoted J) (k := 1) (by rw [hb]; rfl)
  have h0 : 0 < (quoted J).size := by rw [quoted_size]; omega
  obtain ⟨_, hq, _⟩ := bs_at (s := quoted J) (k := 0) hb
  have hw : isWord (quoted J)[0] = false := by rw [hq]; decide
  have hq' : (quoted J)[0].toNat = 34 := by rw [hq]; rfl
  have hcut : cutEnd (quoted J) 0 = ((quoted J).size : Nat) := by rw [cutEnd_text h0 hw hq', hc]
  have hl : lineOk (quoted J) = true := by
    refine AllOk.line ?_ hz
    unfold quoted
    exact ((ok_one (by decide)).app (by rw [← hJ]; exact join_ok hv _ (Nat.le_refl _))).app (ok_one (by decide))
  have ht := sub_tok hl h0 (by omega) hcut false
  have hx : (quoted J).extract 0 (quoted J).size = quoted J := ByteArray.extract_zero_size
  have hk : cutKind (quoted J)[0] = 3 := by rw [hq]; decide
  rw [hx, hk] at ht
  refine ⟨ht, ?_⟩
  rw [bytesRes_yes ht rfl]
  congr 1
  exact bs_ext ho
theorem raw_print (l : List Tok) : ∀ k, k ≤ l.length → (rawTo l k).size ≤ (prTo l k).size ∧ ((prTo l k).size = (rawTo l k).size → prTo l k = rawTo l k)
  | 0, _ => ⟨Nat.le_refl _, fun _ => rfl⟩
  | k + 1, hk => by
    obtain ⟨i1, i2⟩ := raw_print l k (by omega)
    have hk' : k < l.length := by omega
    have h1 : (⟨#[32]⟩ : ByteArray).size = 1 := rfl
    by_cases hs : 0 < k ∧ l[k].spaced = true
    · rw [prTo_yes hk' (gap_spaced hs.1 hk' hs.2), rawTo_sp hk' hs.1 hs.2]
      refine ⟨by simp only [ByteArray.size_append]; omega, fun e => ?_⟩
      simp only [ByteArray.size_append] at e
      rw [i2 (by omega)]
    · rw [rawTo_no hk' hs]
      cases hg : gap l k
      · rw [prTo_no hk' hg]
        refine ⟨by simp only [ByteArray.size_append]; omega, fun e => ?_⟩
        simp only [ByteArray.size_append] at e
        rw [i2 (by omega)]
      · rw [prTo_yes hk' hg]
        refine ⟨by simp only [ByteArray.size_append]; omega, fun e => ?_⟩
        simp only [ByteArray.size_append] at e
        omega
/-- Printed alike, they are read alike. -/
theorem txt_reads {l : List Tok} {x : ByteArray} (h : printRes l = (x, true)) (hs : x.size = (rawTo l l.length).size) : ∃ out, tokRes (rawTo l l.length) = (out, true) ∧ sameTx out l = true := by
  have hv : toksOk l = true := by
    cases hv : toksOk l
    · rw [printRes_no hv] at h; simp at h
    · rfl
  by_cases hl : 200 < (prTo l l.length).size
  · rw [printRes_long hv rfl hl] at h; simp at h
  · have h' := h
    rw [printRes_yes hv rfl hl] at h'
    simp only [Prod.mk.injEq, and_true] at h'
    subst h'
    rw [← (raw_print l l.length (Nat.le_refl _)).2 hs]
    exact print_reads h
theorem raw_one (t : Tok) : rawTo [t] 1 = t.text := by
  rw [rawTo_no (by simp) (by simp)]
  exact ByteArray.empty_append
/-- The text of one text stands for it. -/
theorem txt_one {t u : Tok} (h : txtRes [t] = (u, true)) : bytesRes u = (t.text, true) := by
  have := (txt_back h).2
  rwa [show ([t] : List Tok).length = 1 from rfl, raw_one] at this
theorem bytes_size {t : Tok} {x : ByteArray} (h : bytesRes t = (x, true)) : x.size + 2 ≤ t.text.size := by
  obtain ⟨hv, h3, rfl⟩ := bytesRes_true h
  obtain ⟨h0, _, hc, _⟩ := tokOk_cut hv
  obtain ⟨⟨_, hk⟩, _⟩ := tokOk_facts hv
  rw [h3] at hk
  obtain ⟨hw, hq⟩ := kind3 hk.symm
  rw [cutEnd_text h0 hw hq] at hc
  have := outTo_size t.text 1
  cases he : tClose t.text 1 with
  | none => rw [he] at hc; simp only at hc; omega
  | some e => have := tClose_some he; omega

end Go.Proofs.Ytbkmapaieillmaa

/- Pasting tokens, hiding names: no program. -/
namespace Go.Proofs.Ytbkmapaieillmaa
open Go.RowKit

/-! ### Lists of names -/
def Up (l : List ByteArray) : Prop := l.Pairwise fun a b => sLess a b = true
theorem hid_at {l : List ByteArray} (h : hidOk l = true) : l.length ≤ 60 ∧ ∀ i, i < l.length → hidOkAt l i = true := by
  unfold hidOk at h
  rw [Bool.and_eq_true, decide_eq_true_eq, List.all_eq_true] at h
  exact ⟨h.1, fun i hi => h.2 i (by simpa using hi)⟩
theorem hid_step {l : List ByteArray} (h : hidOk l = true) {i : Nat} (hi : i + 1 < l.length) : sLess (l[i]'(by omega)) l[i + 1] = true := by
  have := (hid_at h).2 (i + 1) hi
  unfold hidOkAt at this
  rw [dif_pos hi, Bool.and_eq_true, Bool.or_eq_true, decide_eq_true_eq] at this
  rcases this.2 with h0 | h0
  · omega
  · exact h0
theorem hid_asc {l : List ByteArray} (h : hidOk l = true) : ∀ d i : Nat, (hj : i + d + 1 < l.length) → sLess (l[i]'(by omega)) (l[i + d + 1]'hj) = true
  | 0, i, hj => hid_step h hj
  | d + 1, i, hj => sLess_trans (hid_asc h d i (by omega)) (hid_step h hj)
theorem hid_parts {l : List ByteArray} (h : hidOk l = true) : l.length ≤ 60 ∧ (∀ x ∈ l, oneTok x 1 = true) ∧ Up l := by
  refine ⟨(hid_at h).1, fun x hx => ?_, ?_⟩
  · obtain ⟨i, hi, rfl⟩ := List.getElem_of_mem hx
    have := (hid_at h).2 i hi
    unfold hidOkAt at this
    rw [dif_pos hi, Bool.and_eq_true] at this
    exact this.1
  · unfold Up
    rw [List.pairwise_iff_getElem]
    intro i j hi hj hij
    have := hid_asc h (j - i - 1) i (by omega)
    have e : i + (j - i - 1) + 1 = j := by omega
    simpa only [e] using this
theorem asc_hid {l : List ByteArray} (h1 : l.length ≤ 60) (h2 : ∀ x ∈ l, oneTok x 1 = true) (h3 : Up l) : hidOk l = true := by
  refine hidOk_yes (k := l.length) (fun j hj => ?_) (Nat.le_refl _) h1
  unfold hidOkAt
  rw [dif_pos hj, h2 _ (List.getElem_mem hj), Bool.true_and, Bool.or_eq_true, decide_eq_true_eq]
  by_cases h0 : j = 0
  · exact .inl h0
  · unfold Up at h3
    rw [List.pairwise_iff_getElem] at h3
    exact .inr (h3 (j - 1) j (by omega) hj (by omega))
theorem hid_filter {l : List ByteArray} (h : hidOk l = true) (p : ByteArray → Bool) : hidOk (l.filter p) = true := by
  obtain ⟨h1, h2, h3⟩ := hid_parts h
  exact asc_hid (Nat.le_trans (List.length_filter_le _ _) h1) (fun x hx => h2 x (List.mem_filter.1 hx).1) (List.Pairwise.filter _ h3)

/-- Whether a name is in a list. -/
def hasN (l : List ByteArray) (s : ByteArray) : Bool := l.any fun x => x.toList == s.toList
theorem hasN_hit {l : List ByteArray} {s : ByteArray} {k : Nat} (hk : k < l.length) (h : (l[k].toList == s.toList) = true) : hasN l s = true := by
  unfold hasN; rw [List.any_eq_true]; exact ⟨_, List.getElem_mem hk, h⟩
theorem hasN_no {l : List ByteArray} {s : ByteArray} (h : ∀ j, (hj : j < l.length) → (l[j].toList == s.toList) = false) : hasN l s = false := by
  unfold hasN; rw [List.any_eq_false]
  intro x hx
  obtain ⟨j, hj, rfl⟩ := List.getElem_of_mem hx
  rw [h j hj]; simp
theorem hasN_iff {l : List ByteArray} {s : ByteArray} : hasN l s = true ↔ s ∈ l := by
  unfold hasN; rw [List.any_eq_true]
  constructor
  · rintro ⟨x, hx, h⟩; rw [bytes_same h] at hx; exact hx
  · intro h; exact ⟨s, h, bytes_beq rfl⟩
/-- The names that are in both lists. -/
def both (a b : List ByteArray) : List ByteArray := a.filter (hasN b)
theorem both_yes {a b : List ByteArray} {k : Nat} (hk : k < a.length) (h : hasN b a[k] = true) : both (a.take (k + 1)) b = both (a.take k) b ++ [a[k]] := by
  unfold both
  rw [List.take_succ_eq_append_getElem hk, List.filter_append, List.filter_cons_of_pos h]; rfl
theorem both_no {a b : List ByteArray} {k : Nat} (hk : k < a.length) (h : hasN b a[k] = false) : both (a.take (k + 1)) b = both (a.take k) b := by
  unfold both
  rw [List.take_succ_eq_append_getElem hk, List.filter_append, List.filter_cons_of_neg (by simp [h])]; simp
theorem both_all {a b : List ByteArray} {k : Nat} (hk : a.length ≤ k) : both (a.take k) b = both a b := by rw [List.take_of_length_le hk]
theorem both_len (a b : List ByteArray) : (both a b).length ≤ a.length := List.length_filter_le _ _

/-- A name put into a list of names, by its bytes. -/
def ins : List ByteArray → ByteArray → List ByteArray
  | [], n => [n]
  | x :: r, n => if sLess x n = true then x :: ins r n else if (x.toList == n.toList) = true then x :: r else n :: x :: r
theorem mem_ins (n : ByteArray) : ∀ l, n ∈ ins l n
  | [] => by simp [ins]
  | x :: r => by
    unfold ins
    split
    · exact List.mem_cons_of_mem _ (mem_ins n r)
    · split
      · rename_i h; rw [bytes_same h]; simp
      · simp
theorem ins_again (n : ByteArray) : ∀ l, ins (ins l n) n = ins l n
  | [] => by simp [ins, sLess_irrefl, bytes_beq]
  | x :: r => by
    by_cases h1 : sLess x n = true
    · have e : ins (x :: r) n = x :: ins r n := by rw [ins, if_pos h1]
      rw [e, ins, if_pos h1, ins_again n r]
    · by_cases h2 : (x.toList == n.toList) = true
      · have e : ins (x :: r) n = x :: r := by rw [ins, if_neg h1, if_pos h2]
        rw [e, e]
      · have e : ins (x :: r) n = n :: x :: r := by rw [ins, if_neg h1, if_neg h2]
        rw [e, ins, if_neg (by simp [sLess_irrefl]), if_pos (bytes_beq rfl)]
theorem ins_grow (n : ByteArray) : ∀ l, (ins l n).length ≤ l.length + 1
  | [] => by simp [ins]
  | x :: r => by
    unfold ins
    have := ins_grow n r
    split
    · simp; omega
    · split <;> simp
/-- Where the name goes. -/
theorem ins_at (n : ByteArray) : ∀ (l : List ByteArray) (k : Nat), k ≤ l.length → (∀ j, (hj : j < l.length) → j < k → sLess l[j] n = true) → (∀ h : k < l.length, sLess l[k] n = false ∧ (l[k].toList == n.toList) = false) → ins l n = l.take k ++ n :: l.drop k
  | [], k, hk, _, _ => by simp [ins]
  | x :: r, 0, _, _, h => by
    obtain ⟨h1, h2⟩ := h (by simp)
    simp only [List.getElem_cons_zero] at h1 h2
    rw [ins, if_neg (by simp [h1]), if_neg (by simp [h2])]; rfl
  | x :: r, k + 1, hk, ha, h => by
    have h0 := ha 0 (by simp) (by omega)
    simp only [List.getElem_cons_zero] at h0
    rw [ins, if_pos h0, ins_at n r k (by simpa using hk) (fun j hj hjk => by have := ha (j + 1) (by simpa using hj) (by omega); simpa using this) (fun hh => by have := h (by simpa using hh); simpa using this)]
    rfl
theorem ins_in (n : ByteArray) : ∀ (l : List ByteArray) (k : Nat), (hk : k < l.length) → (∀ j, (hj : j < l.length) → j < k → sLess l[j] n = true) → (l[k].toList == n.toList) = true → ins l n = l
  | x :: r, 0, _, _, h => by
    simp only [List.getElem_cons_zero] at h
    have e := bytes_same h
    rw [ins, if_neg (by rw [e, sLess_irrefl]; simp), if_pos h]
  | x :: r, k + 1, hk, ha, h => by
    have h0 := ha 0 (by simp) (by omega)
    simp only [List.getElem_cons_zero] at h0
    rw [ins, if_pos h0, ins_in n r k (by simpa using hk) (fun j hj hjk => by have := ha (j + 1) (by simpa using hj) (by omega); simpa using this) (by simpa using h)]

/-! ### Pasting -/
theorem p_wEnd_all (s : ByteArray) (k : Nat) : ∀ j, (h : j < s.size) → k ≤ j → j < wEnd s k → isWord s[j] = true := by
  induction k using wEnd.induct (s := s) with
  | case1 k h hc ih =>
    intro j hj hkj hje
    rw [wEnd_in h hc] at hje
    by_cases e : j = k
    · subst e; exact hc
    · exact ih j hj (by omega) hje
  | case2 k h hc => intro j hj hkj hje; rw [wEnd_stop h (by simpa using hc)] at hje; omega
  | case3 k h => intro j hj hkj hje; rw [wEnd_out (by omega)] at hje; omega
theorem p_marks1_32 : ∀ c ∈ marks1, c.toNat ≠ 32 := by decide
theorem p_two_snd {s : ByteArray} {k : Nat} {a b : UInt8} (h : two s k a b = true) : s[k + 1]'(two_room h) = b := by
  have hr := two_room h
  unfold two at h
  rw [List.isPrefixOf_iff_prefix] at h
  obtain ⟨t, ht⟩ := h
  have h1 : (s.data.toList.drop k)[1]? = some b := by rw [← ht]; rfl
  rw [List.getElem?_drop] at h1
  have h2 : s.data.toList[k + 1]? = some s[k + 1] := by
    rw [List.getElem?_eq_getElem (by simpa using hr)]; simp [ByteArray.getElem_eq_getElem_data]
  rw [h2] at h1
  simpa using h1
theorem p_two_last {s : ByteArray} {k : Nat} (h : twoAt s k = true) : ∃ hk : k + 1 < s.size, s[k + 1].toNat ≠ 32 := by
  have hk := twoAt_room h
  refine ⟨hk, ?_⟩
  unfold twoAt at h
  simp only [Bool.or_eq_true] at h
  rcases h with (((((h | h) | h) | h) | h) | h) | h <;> (rw [p_two_snd h]; decide)
theorem p_cut_last {s : ByteArray} {k : Nat} (hk : k < s.size) (h : cutEnd s k = s.size) : (s[s.size - 1]'(by omega)).toNat ≠ 32 := by
  cases hw : isWord s[k]
  · by_cases hq : s[k].toNat = 34
    · rw [cutEnd_text hk hw hq] at h
      cases hc : tClose s (k + 1) with
      | none => rw [hc] at h; simp only at h; omega
      | some e =>
        rw [hc] at h
        simp only at h
        obtain ⟨_, _, _, h1, h2⟩ := tClose_some hc
        have e1 : e = s.size := by omega
        subst e1
        omega
    · rw [cutEnd_mark hk hw hq] at h
      split at h
      · omega
      · rename_i h0
        cases ht : twoAt s k
        · by_cases hm : s[k] ∈ marks1
          · rw [mLen_one ht hk hm] at h
            have e : k = s.size - 1 := by omega
            subst e
            exact p_marks1_32 _ hm
          · exact absurd (mLen_none ht hk hm) h0
        · obtain ⟨h1, h2⟩ := p_two_last ht
          have e2 : mLen s k = 2 := by unfold mLen; rw [if_pos ht]
          rw [e2] at h
          have e : k + 1 = s.size - 1 := by omega
          intro hh
          apply h2
          have : s[k + 1] = s[s.size - 1]'(by omega) := by congr 1
          rw [this]; exact hh
  · rw [cutEnd_word hk hw] at h
    split at h
    · omega
    · have := p_wEnd_all s k (s.size - 1) (by omega) (by omega) (by omega)
      rw [isWord_iff] at this
      omega
/-- Where no token comes any more there are spaces alone. -/
theorem toks_rest (s : ByteArray) : ∀ (k : Nat) (sp : Bool) (n : Nat), toks s k sp n = some [] → ∀ j, (h : j < s.size) → k ≤ j → s[j].toNat = 32 := by
  intro k sp n
  induction k, sp, n using toks.induct (s := s) with
  | case1 k sp n hk h32 ih =>
    intro h j hj hkj
    rw [toks, dif_pos hk, if_pos h32] at h
    by_cases e : j = k
    · subst e; exact h32
    · exact ih h j hj (by omega)
  | case2 k sp n hk h32 hb =>
    intro h
    rw [toks, dif_pos hk, if_neg h32, if_pos hb] at h
    exact absurd h (by simp)
  | case3 k sp n hk h32 hb ih =>
    intro h
    rw [toks, dif_pos hk, if_neg h32, if_neg hb, Option.map_eq_some_iff] at h
    obtain ⟨l', _, h2⟩ := h
    exact absurd h2 (by simp)
  | case4 k sp n hk => intro h j hj hkj; omega
/-- One token without spaces around it is the whole line. -/
theorem one_whole {s : ByteArray} {t : Tok} (h : tokRes s = ([t], true)) (h0 : 0 < s.size) (hf : ¬ s[0].toNat = 32) (hl : ¬ (s[s.size - 1]'(by omega)).toNat = 32) : t = ⟨cutKind s[0], s, false, []⟩ ∧ tokOk t = true := by
  obtain ⟨h1, h2⟩ := tokRes_true h
  rw [toks, dif_pos h0, if_neg hf] at h1
  split at h1
  · exact absurd h1 (by simp)
  · rename_i hb
    rw [Option.map_eq_some_iff] at h1
    obtain ⟨l', h3, h4⟩ := h1
    simp only [List.cons.injEq] at h4
    obtain ⟨h4, rfl⟩ := h4
    have hr := cutEnd_room (s := s) (k := 0) (by omega)
    have hc : cutEnd s 0 = (s.size : Nat) := by
      by_cases e : cutEnd s 0 = (s.size : Nat)
      · exact e
      · exact absurd (toks_rest s _ _ _ h3 (s.size - 1) (by omega) (by omega)) hl
    have hv := sub_tok h2 h0 hf hc false
    have hx : s.extract 0 s.size = s := ByteArray.extract_zero_size
    have hx2 : s.extract 0 (cutEnd s 0).toNat = s := by rw [hc]; exact hx
    rw [hx] at hv
    rw [hx2] at h4
    subst h4
    exact ⟨rfl, hv⟩
theorem tok_ends {t : Tok} (h : tokOk t = true) : ∃ h0 : 0 < t.text.size, t.text[0].toNat ≠ 32 ∧ (t.text[t.text.size - 1]'(by omega)).toNat ≠ 32 ∧ t.kind = cutKind t.text[0] := by
  obtain ⟨h0, h1, h2, _⟩ := tokOk_cut h
  obtain ⟨⟨_, hk⟩, _⟩ := tokOk_facts h
  exact ⟨h0, h1, p_cut_last h0 h2, hk⟩
def pasteRes (a b : Tok) : Tok × Bool :=
  if tokOk a = true ∧ tokOk b = true then
    (match tokRes (a.text ++ b.text) with
     | ([t], true) => (⟨t.kind, t.text, a.spaced, both a.hidden b.hidden⟩, true)
     | _ => (zTok, false))
  else (zTok, false)
theorem paste_no1 {a b : Tok} (h : tokOk a = false) : pasteRes a b = (zTok, false) := by unfold pasteRes; rw [if_neg (by simp [h])]
theorem paste_no2 {a b : Tok} (h : tokOk b = false) : pasteRes a b = (zTok, false) := by unfold pasteRes; rw [if_neg (by simp [h])]
theorem paste_bad {a b : Tok} {l : List Tok} (h : tokRes (a.text ++ b.text) = (l, false)) : pasteRes a b = (zTok, false) := by
  unfold pasteRes; rw [h]; split
  · split
    · rename_i e; simp at e
    · rfl
  · rfl
theorem paste_len {a b : Tok} {l : List Tok} {o : Bool} (h : tokRes (a.text ++ b.text) = (l, o)) (hl : l.length ≠ 1) : pasteRes a b = (zTok, false) := by
  unfold pasteRes; rw [h]; split
  · split
    · rename_i e; simp only [Prod.mk.injEq] at e; rw [e.1] at hl; exact absurd rfl hl
    · rfl
  · rfl
theorem paste_yes {a b t : Tok} (ha : tokOk a = true) (hb : tokOk b = true) (h : tokRes (a.text ++ b.text) = ([t], true)) : pasteRes a b = (⟨t.kind, t.text, a.spaced, both a.hidden b.hidden⟩, true) := by
  unfold pasteRes; rw [if_pos ⟨ha, hb⟩, h]
theorem paste_true {a b u : Tok} (h : pasteRes a b = (u, true)) : tokOk a = true ∧ tokOk b = true ∧ ∃ t, tokRes (a.text ++ b.text) = ([t], true) ∧ u = ⟨t.kind, t.text, a.spaced, both a.hidden b.hidden⟩ := by
  unfold pasteRes at h
  split at h
  · rename_i hv
    split at h
    · rename_i t e; simp only [Prod.mk.injEq, and_true] at h; exact ⟨hv.1, hv.2, t, e, h.symm⟩
    · simp at h
  · simp at h
theorem paste_false {a b u : Tok} (h : pasteRes a b = (u, false)) : u = zTok := by
  unfold pasteRes at h
  split at h
  · split at h
    · simp at h
    · simp only [Prod.mk.injEq, and_true] at h; exact h.symm
  · simp only [Prod.mk.injEq, and_true] at h; exact h.symm
/-- Two tokens' texts together begin and end with no space. -/
theorem glue_ends {a b : Tok} (ha : tokOk a = true) (hb : tokOk b = true) : ∃ h0 : 0 < (a.text ++ b.text).size, (a.text ++ b.text)[0].toNat ≠ 32 ∧ ((a.text ++ b.text)[(a.text ++ b.text).size - 1]'(by omega)).toNat ≠ 32 ∧ a.kind = cutKind (a.text ++ b.text)[0] := by
  obtain ⟨a0, a1, _, ak⟩ := tok_ends ha
  obtain ⟨b0, _, b2, _⟩ := tok_ends hb
  have hz : (a.text ++ b.text).size = a.text.size + b.text.size := ByteArray.size_append
  have h0 : 0 < (a.text ++ b.text).size := by omega
  have e0 : (a.text ++ b.text)[0] = a.text[0] := ByteArray.getElem_append_left a0
  have e1 : (a.text ++ b.text)[(a.text ++ b.text).size - 1]'(by omega) = b.text[b.text.size - 1]'(by omega) := by
    rw [ByteArray.getElem_append_right (by omega)]
    congr 1; omega
  exact ⟨h0, by rw [e0]; exact a1, by rw [e1]; exact b2, by rw [e0]; exact ak⟩
theorem paste_fact {a b u : Tok} (h : pasteRes a b = (u, true)) : tokOk u = true ∧ u.text = a.text ++ b.text ∧ u.kind = a.kind ∧ u.spaced = a.spaced ∧ u.hidden = both a.hidden b.hidden ∧ u.hidden.length ≤ a.hidden.length := by
  obtain ⟨ha, hb, t, ht, rfl⟩ := paste_true h
  obtain ⟨h0, h1, h2, hk⟩ := glue_ends ha hb
  obtain ⟨rfl, hv⟩ := one_whole ht h0 h1 h2
  refine ⟨?_, rfl, hk.symm, rfl, rfl, both_len _ _⟩
  unfold tokOk at hv ha ⊢
  rw [Bool.and_eq_true] at hv ha ⊢
  exact ⟨hv.1, hid_filter ha.2 _⟩

/-! ### Hiding -/
def hid1 (n : ByteArray) (t : Tok) : Tok := ⟨t.kind, t.text, t.spaced, ins t.hidden n⟩
def hideRes (l : List Tok) (n : ByteArray) : List Tok := if toksOk l = true ∧ oneTok n 1 = true then (if toksOk (l.map (hid1 n)) = true then l.map (hid1 n) else []) else []
theorem hide_bad {l : List Tok} {n : ByteArray} (h : toksOk l = false) : hideRes l n = [] := by unfold hideRes; rw [if_neg (by simp [h])]
theorem hide_name {l : List Tok} {n : ByteArray} (h : oneTok n 1 = false) : hideRes l n = [] := by unfold hideRes; rw [if_neg (by simp [h])]
theorem hide_no {l : List Tok} {n : ByteArray} (h : toksOk (l.map (hid1 n)) = false) : hideRes l n = [] := by
  unfold hideRes; split
  · rw [if_neg (by simp [h])]
  · rfl
theorem hide_yes {l : List Tok} {n : ByteArray} (h1 : toksOk l = true) (h2 : oneTok n 1 = true) (h3 : toksOk (l.map (hid1 n)) = true) : hideRes l n = l.map (hid1 n) := by unfold hideRes; rw [if_pos ⟨h1, h2⟩, if_pos h3]
theorem hide_fact {l : List Tok} {n : ByteArray} (h : hideRes l n ≠ []) : toksOk l = true ∧ oneTok n 1 = true ∧ toksOk (hideRes l n) = true ∧ hideRes l n = l.map (hid1 n) := by
  unfold hideRes at h ⊢
  split at h
  · rename_i hv
    split at h
    · rename_i h2
      rw [if_pos hv, if_pos h2]
      exact ⟨hv.1, hv.2, h2, rfl⟩
    · exact absurd rfl h
  · exact absurd rfl h
theorem hid1_again (n : ByteArray) (t : Tok) : hid1 n (hid1 n t) = hid1 n t := by unfold hid1; simp only [ins_again]
theorem hide_again {l : List Tok} {n : ByteArray} (h : hideRes l n ≠ []) : hideRes (hideRes l n) n = hideRes l n := by
  obtain ⟨h1, h2, h3, h4⟩ := hide_fact h
  have e : (hideRes l n).map (hid1 n) = hideRes l n := by
    rw [h4, List.map_map]; congr 1; funext t; exact hid1_again n t
  rw [hide_yes h3 h2 (by rw [e]; exact h3), e]
theorem hide_texts {l : List Tok} {n : ByteArray} (h : hideRes l n ≠ []) : sameTx (hideRes l n) l = true := by
  obtain ⟨_, _, _, h4⟩ := hide_fact h
  unfold sameTx
  rw [decide_eq_true_eq, h4, List.map_map]; rfl
theorem hide_has {l : List Tok} {n : ByteArray} (h : hideRes l n ≠ []) : ∀ t ∈ hideRes l n, hasN t.hidden n = true := by
  obtain ⟨_, _, _, h4⟩ := hide_fact h
  rw [h4]
  intro t ht
  obtain ⟨u, _, rfl⟩ := List.mem_map.1 ht
  exact hasN_iff.2 (mem_ins n u.hidden)

end Go.Proofs.Ytbkmapaieillmaa

/- Names of two lists, of both; slices.BinarySearch of strings. -/
namespace Go.Proofs.Ytbkmapaieillmaa
open Go.RowKit

/-! ### Places of names -/
def lowS (l : List ByteArray) (nm : ByteArray) : Nat := (l.takeWhile fun x => sLess x nm).length
theorem lowS_le (l : List ByteArray) (nm : ByteArray) : lowS l nm ≤ l.length := (List.takeWhile_prefix _).length_le
theorem lowS_iff (nm : ByteArray) : ∀ {l : List ByteArray}, Up l → ∀ j, (hj : j < l.length) → sLess l[j] nm = decide (j < lowS l nm)
  | [], _, j, hj => by simp at hj
  | x :: r, h, j, hj => by
    obtain ⟨h1, h2⟩ := List.pairwise_cons.1 h
    by_cases hx : sLess x nm = true
    · have e : lowS (x :: r) nm = lowS r nm + 1 := by unfold lowS; rw [List.takeWhile_cons_of_pos (p := fun x => sLess x nm) hx]; rfl
      rw [e]
      cases j with
      | zero => simp [hx]
      | succ j => simp only [List.getElem_cons_succ]; rw [lowS_iff nm h2 j (by simpa using hj)]; exact decide_eq_decide.2 (by omega)
    · have e : lowS (x :: r) nm = 0 := by unfold lowS; rw [List.takeWhile_cons_of_neg (p := fun x => sLess x nm) hx]; rfl
      rw [e]
      cases j with
      | zero => simp at hx ⊢; exact hx
      | succ j =>
        simp only [List.getElem_cons_succ]
        have hj' : j < r.length := by simpa using hj
        cases hs : sLess r[j] nm
        · simp
        · exact absurd (sLess_trans (h1 _ (List.getElem_mem hj')) hs) hx
def isS (l : List ByteArray) (nm : ByteArray) : Bool := if h : lowS l nm < l.length then (l[lowS l nm].toList == nm.toList) else false
theorem isS_has {l : List ByteArray} (h : Up l) (nm : ByteArray) : isS l nm = hasN l nm := by
  cases hs : isS l nm
  · refine (hasN_no fun j hj => ?_).symm
    cases hj2 : (l[j].toList == nm.toList)
    · rfl
    · exfalso
      have e := bytes_same hj2
      have h1 := lowS_iff nm h j hj
      rw [e, sLess_irrefl] at h1
      have h2 := of_decide_eq_false h1.symm
      unfold isS at hs
      by_cases h3 : j = lowS l nm
      · subst h3; rw [dif_pos hj, hj2] at hs; exact absurd hs (by simp)
      · have h4 : lowS l nm < j := by omega
        have h5 := (List.pairwise_iff_getElem.1 h) (lowS l nm) j (by omega) hj h4
        rw [e, lowS_iff nm h (lowS l nm) (by omega)] at h5
        simp at h5
  · unfold isS at hs
    split at hs
    · rename_i h1; exact (hasN_hit h1 hs).symm
    · exact absurd hs (by simp)
theorem ins_yes {l : List ByteArray} (h : Up l) {nm : ByteArray} (hs : isS l nm = true) : ins l nm = l := by
  unfold isS at hs
  split at hs
  · rename_i h1
    exact ins_in nm l (lowS l nm) h1 (fun j hj hjk => by rw [lowS_iff nm h j hj]; simpa using hjk) hs
  · exact absurd hs (by simp)
theorem ins_no {l : List ByteArray} (h : Up l) {nm : ByteArray} (hs : isS l nm = false) : ins l nm = l.take (lowS l nm) ++ nm :: l.drop (lowS l nm) := by
  refine ins_at nm l (lowS l nm) (lowS_le l nm) (fun j hj hjk => by rw [lowS_iff nm h j hj]; simpa using hjk) fun h1 => ⟨?_, ?_⟩
  · rw [lowS_iff nm h _ h1]; simp
  · unfold isS at hs; rw [dif_pos h1] at hs; exact hs

/-! ### The library's -/
theorem lib_cmpNaN (a : ByteArray) (w : World) : Calls Try.prog 78 #[.string a] w fun e w' => e = .returned (.bool false) ∧ w' = w := by
  go_enter Try.func78, Try.ntmps78
  go_wp2
  go_ret
  exact ⟨rfl, rfl⟩
theorem lib_slNaN (a : ByteArray) (w : World) : Calls Try.prog 68 #[.string a] w fun e w' => e = .returned (.bool false) ∧ w' = w := by
  go_enter Try.func68, Try.ntmps68
  go_wp2
  go_ret
  exact ⟨rfl, rfl⟩
theorem lib_Less (a b : ByteArray) (w : World) : Calls Try.prog 67 #[.string a, .string b] w fun e w' => e = .returned (.bool (sLess a b)) ∧ w' = w := by
  go_enter Try.func67, Try.ntmps67
  go_wp2_with (go_at_call 78; refine (lib_cmpNaN _ _).mono ?_; rintro e w2 ⟨rfl, rfl⟩)
  go_ret
  exact ⟨rfl, rfl⟩

set_option maxHeartbeats 4000000 in
theorem lib_SearchS (v : Value) (l : List ByteArray) (nm : ByteArray) (fp : List Nat) (w : World) (hu : Up l) (hn : l.length ≤ 1000000) (H : (sSlice sStr).R w [v] l fp) :
    Calls Try.prog 56 #[v, .string nm] w fun e w' => e = .returned (.tuple #[.int .i64 (lowS l nm : Nat), .bool (isS l nm)]) ∧ w' = w := by
  obtain ⟨a, cap, rfl, hc, hm, hcell, -⟩ := open_strs H
  unfold maxLen at hm
  clear H
  have HLE := Lib.hid (lowS_le l nm)
  have HIFF : Hid (∀ j, (hj : j < l.length) → sLess l[j] nm = decide (j < lowS l nm)) := lowS_iff nm hu
  have HIN : Hid (∀ h : lowS l nm < l.length, isS l nm = (l[lowS l nm].toList == nm.toList)) := fun h => by unfold isS; rw [dif_pos h]
  have HOUT : Hid (¬ lowS l nm < l.length → isS l nm = false) := fun h => by unfold isS; rw [dif_neg h]
  clear hu
  go_enter Try.func56, Try.ntmps56
  go_wp2
  go_loopw [7, 8] (fun s9 s10 wr => ∃ lo hi : Nat, s9 = .int .i64 lo ∧ s10 = .int .i64 hi ∧ lo ≤ hi ∧ hi ≤ l.length ∧ Hid (lo ≤ lowS l nm ∧ lowS l nm ≤ hi) ∧ wr = w) (fun s9 s10 _ => (intOf s10).toNat - (intOf s9).toNat)
  case atStart => exact ⟨0, l.length, rfl, rfl, by omega, by omega, ⟨by omega, HLE.out⟩, rfl⟩
  case round =>
    obtain ⟨lo, hi, rfl, rfl, hlh, hin, HW, rfl⟩ := hrel
    by_cases hlt : lo < hi
    · obtain ⟨b1, off1, rfl, hb1, -, he1⟩ := hcell (by omega)
      have c10 : wr.cell? ⟨b1, off1 + (lo + hi) / 2, none⟩ = some _ := he1 ((lo + hi) / 2) (by omega)
      have HC := Lib.hid (lib_Less (l[(lo + hi) / 2]'(by omega)) nm wr)
      clear he1 hcell
      cases hyx : sLess (l[(lo + hi) / 2]'(by omega)) nm
      · have HL : Hid (lo ≤ lowS l nm ∧ lowS l nm ≤ (lo + hi) / 2) := by
          have h1 := HIFF.out ((lo + hi) / 2) (by omega)
          rw [hyx] at h1
          have h2 := of_decide_eq_false h1.symm
          exact ⟨HW.out.1, by omega⟩
        rw [hyx] at HC
        clear hyx
        go_wp2_with (go_at_call 67; refine HC.out.mono ?_; rintro e w2 ⟨rfl, rfl⟩)
        go_roundw
        case rel => exact ⟨lo, (lo + hi) / 2, rfl, by first | rfl | rw [show ((lo : Int) + (hi : Int)) / 2 = (((lo + hi) / 2 : Nat) : Int) by omega], by omega, by omega, HL, by trivial⟩
        case measure => simp [intOf]; omega
      · have HL : Hid ((lo + hi) / 2 + 1 ≤ lowS l nm ∧ lowS l nm ≤ hi) := by
          have h1 := HIFF.out ((lo + hi) / 2) (by omega)
          rw [hyx] at h1
          have h2 := of_decide_eq_true h1.symm
          exact ⟨h2, HW.out.2⟩
        rw [hyx] at HC
        clear hyx
        go_wp2_with (go_at_call 67; refine HC.out.mono ?_; rintro e w2 ⟨rfl, rfl⟩)
        go_roundw
        case rel => exact ⟨(lo + hi) / 2 + 1, hi, by first | rfl | rw [show ((lo : Int) + (hi : Int)) / 2 + 1 = (((lo + hi) / 2 + 1 : Nat) : Int) by omega], rfl, by omega, hin, HL, by trivial⟩
        case measure => simp [intOf]; omega
    · obtain rfl : hi = lo := by omega
      have hlow : lowS l nm = hi := by have := HW.out; omega
      by_cases hn2 : hi < l.length
      · have HD : Hid (isS l nm = (l[hi].toList == nm.toList)) := by
          subst hlow
          exact HIN.out hn2
        have HA := Lib.hid hlow
        clear hlow HIN HOUT HIFF HW HLE
        obtain ⟨b1, off1, rfl, hb1, -, he1⟩ := hcell (by omega)
        have c10 : wr.cell? ⟨b1, off1 + hi, none⟩ = some _ := he1 hi hn2
        clear he1 hcell
        cases hyx : (l[hi].toList == nm.toList)
        · have HF := Lib.hid (HD.out.trans hyx)
          clear HD
          go_wp2_with (go_at_call 68; refine (lib_slNaN _ _).mono ?_; rintro e w2 ⟨rfl, rfl⟩)
          go_ret2
          exact ⟨by rw [HA.out, HF.out]; rfl, rfl⟩
        · have HF := Lib.hid (HD.out.trans hyx)
          clear HD
          go_wp2
          go_ret2
          exact ⟨by rw [HA.out, HF.out]; rfl, rfl⟩
      · have HF := Lib.hid (HOUT.out (by omega))
        have HA := Lib.hid hlow
        clear hlow HIN HOUT HIFF HW HLE
        go_wp2
        go_ret2
        exact ⟨by rw [HA.out, HF.out]; rfl, rfl⟩

/-! ### Names that are in both -/
set_option maxHeartbeats 4000000 in
theorem spec_l9Has (v : Value) (l : List ByteArray) (s : ByteArray) (fp : List Nat) (w : World) (H : (sSlice sStr).R w [v] l fp) :
    Calls Try.prog 59 #[v, .string s] w (Says (hasN l s) w) := by
  obtain ⟨a, cap, rfl, hc, hm, hcell, -⟩ := open_strs H
  unfold maxLen at hm
  clear H
  go_enter Try.func59, Try.ntmps59
  go_wp2
  go_loopw [5] (fun i wr => ∃ k : Nat, k ≤ l.length ∧ i = .int .i64 k ∧ Hid (∀ j, (hj : j < l.length) → j < k → (l[j].toList == s.toList) = false) ∧ Below w.heap.size w wr) (fun i _ => l.length - (intOf i).toNat)
  case atStart => exact ⟨0, by omega, rfl, fun j _ h => by omega, Below.refl _ _⟩
  case round =>
    obtain ⟨k, hk, rfl, HP, hb⟩ := hrel
    by_cases hlt : k < l.length
    · obtain ⟨b1, off1, rfl, hb1, -, he1⟩ := hcell (by omega)
      have c10 : wr.cell? ⟨b1, off1 + k, none⟩ = some _ := (hb.cell (p := ⟨b1, off1 + k, none⟩) hb1).trans (he1 k hlt)
      clear he1 hcell
      cases g : (l[k].toList == s.toList)
      · have HF : Hid (∀ j, (hj : j < l.length) → j < k + 1 → (l[j].toList == s.toList) = false) := fun j hj h => by
          by_cases e : j = k
          · subst e; exact g
          · exact HP.out j hj (by omega)
        clear HP
        go_wp2
        go_roundw
        case rel => exact ⟨k + 1, by omega, by go_num, HF, hb⟩
        case measure => simp [intOf]; omega
      · have HF := Lib.hid (hasN_hit hlt g)
        clear HP
        go_wp2
        go_ret
        exact ⟨ret_bool HF.out.symm, hb⟩
    · have HF := Lib.hid (hasN_no (l := l) (s := s) fun j hj => HP.out j hj (by omega))
      clear HP
      go_wp2
      go_ret
      exact ⟨ret_bool HF.out.symm, hb⟩

theorem both_ok {a b : List ByteArray} (h : ∀ i, (hi : i < a.length) → a[i].size ≤ maxLen) : ∀ i, (hi : i < (both a b).length) → okStr (both a b)[i] := fun i hi => by
  have hm : (both a b)[i] ∈ a := (List.mem_filter.1 (List.getElem_mem hi)).1
  obtain ⟨j, hj, e⟩ := List.getElem_of_mem hm
  rw [← e]; exact h j hj

set_option maxHeartbeats 4000000 in
theorem spec_l9Both (va vb : Value) (a b : List ByteArray) (fpa fpb : List Nat) (w : World) (ha : a.length ≤ 1000000) (Ha : (sSlice sStr).R w [va] a fpa) (Hb : (sSlice sStr).R w [vb] b fpb) :
    Calls Try.prog 36 #[va, vb] w (Made (sSlice sStr) (both a b) w) := by
  obtain ⟨aa, ca, rfl, hca, hma, hcell, hsz⟩ := open_strs Ha
  unfold maxLen at hma
  have HSZ := Lib.hid (both_ok (b := b) hsz)
  have HB := Lib.hid Hb
  have hlit : Hid ((w.alloc (.cells #[] 9)).ownsRow w.heap.size 9 1 (.slice (some ⟨w.heap.size, 0, none⟩) 0 0) (both (a.take 0) b).length ((both (a.take 0) b).map Value.string)) :=
    World.ownsRow_lit (base := w.heap.size) (e := 9) (size := 1) w #[] 0 (Nat.le_refl _) (by simp) rfl
  have hba := alloc_below' w (.cells #[] 9)
  clear Ha Hb hsz
  go_enter Try.func36, Try.ntmps36
  go_wp2
  go_loopw [5, 6] (fun o i wr => ∃ (k : Nat), k ≤ a.length ∧ i = .int .i64 k ∧ Hid (wr.ownsRow w.heap.size 9 1 o (both (a.take k) b).length ((both (a.take k) b).map Value.string)) ∧ Below w.heap.size w wr) (fun _ i _ => a.length - (intOf i).toNat)
  case atStart => exact ⟨0, by omega, rfl, hlit, hba⟩
  case round =>
    clear hlit hba
    obtain ⟨k, hk, rfl, HO, hb⟩ := hrel
    by_cases hlt : k < a.length
    · obtain ⟨b1, off1, rfl, hb1, -, he1⟩ := hcell (by omega)
      have c10 : wr.cell? ⟨b1, off1 + k, none⟩ = some _ := (hb.cell (p := ⟨b1, off1 + k, none⟩) hb1).trans (he1 k hlt)
      have HC := Lib.hid (spec_l9Has vb b a[k] fpb wr ((sSlice sStr).below HB.out hb))
      clear he1 hcell
      cases g : hasN b a[k]
      · have HN := Lib.hid (both_no hlt g)
        rw [g] at HC
        clear g
        go_wp2_with (go_at_call 59; refine HC.out.mono ?_; rintro e w2 ⟨rfl, hb2⟩)
        go_roundw
        case rel => exact ⟨k + 1, by omega, by go_num, by show World.ownsRow _ _ _ _ _ _ _; rw [HN.out]; exact ownsRow_same HO.out fun g hg => hb2.block g (HO.out.lt g hg).2, hb.trans (hb2.mono hb.size)⟩
        case measure => simp [intOf]; omega
      · have HN := Lib.hid (both_yes hlt g)
        rw [g] at HC
        clear g
        have hlen : (both (a.take k) b).length ≤ k := Nat.le_trans (both_len _ _) (by simp; omega)
        go_wp2_with fail
        refine HC.out.mono ?_
        rintro e w2 ⟨rfl, hb2⟩
        have hbw := hb.trans (hb2.mono hb.size)
        have c11 : w2.cell? ⟨b1, off1 + k, none⟩ = some _ := (hb2.cell (p := ⟨b1, off1 + k, none⟩) (Nat.lt_of_lt_of_le hb1 hb.size)).trans c10
        have HO2 := Lib.hid (ownsRow_same (w' := w2) HO.out fun g hg => hb2.block g (HO.out.lt g hg).2)
        clear HO hb2 c10 HC
        go_wp2_with (at_builtin; refine wp_append_one ti27 rfl _ (.string a[k]) rfl rfl (.tmp 20) (.tmp 25) rfl w.heap.size _ (both (a.take k) b).length ((both (a.take k) b).map Value.string) rfl HO2.out rfl (by unfold maxLen; omega) (by omega) hbw.size ?_; intro v3 w3 hE3 hg3)
        have hb3 : Below w.heap.size w w3 := hbw.grown hg3 hbw.size (fun b hb => (HO2.out.lt b hb).1)
        have HO3 : Hid (w3.ownsRow w.heap.size 9 1 v3 (both (a.take (k + 1)) b).length ((both (a.take (k + 1)) b).map Value.string)) := by
          show World.ownsRow _ _ _ _ _ _ _
          rw [HN.out]; simpa using hE3
        clear hE3 hg3 c11 hlen HO2
        go_roundw
        case rel => exact ⟨k + 1, by omega, by go_num, HO3, hb3⟩
        case measure => simp [intOf]; omega
    · have hO := HO.out
      rw [both_all (by omega)] at hO
      obtain ⟨fpr, hR, hOw, -⟩ := own_flat (ok := okStr) hO HSZ.out
      have HR := Lib.hid (And.intro hR hOw)
      clear hO hR hOw HO
      go_wp2
      go_ret
      exact ⟨_, fpr, rfl, HR.out.1, HR.out.2, hb⟩

set_option maxHeartbeats 4000000 in
theorem impl_namesOfBoth (va vb : Value) (a b : List ByteArray) (fpa fpb : List Nat) (w : World) (ha : a.length ≤ 1000000) (hbl : b.length ≤ 1000000) (hu : Up b) (Ha : (sSlice sStr).R w [va] a fpa) (Hb : (sSlice sStr).R w [vb] b fpb) :
    Calls Try.prog 32 #[va, vb] w (Made (sSlice sStr) (both a b) w) := by
  obtain ⟨aa, ca, rfl, hca, hma, hcell, hsz⟩ := open_strs Ha
  unfold maxLen at hma
  have HSZ := Lib.hid (both_ok (b := b) hsz)
  have HB := Lib.hid Hb
  have HU := Lib.hid hu
  have hlit : Hid (w.ownsRow w.heap.size 9 1 (.slice none 0 0) (both (a.take 0) b).length ((both (a.take 0) b).map Value.string)) := ⟨rfl, .inl ⟨rfl, rfl⟩⟩
  clear Ha Hb hsz hu
  go_enter Try.func32, Try.ntmps32
  go_wp2
  go_loopw [5, 12] (fun o i wr => ∃ (k : Nat), k ≤ a.length ∧ i = .int .i64 k ∧ Hid (wr.ownsRow w.heap.size 9 1 o (both (a.take k) b).length ((both (a.take k) b).map Value.string)) ∧ Below w.heap.size w wr) (fun _ i _ => a.length - (intOf i).toNat)
  case atStart => exact ⟨0, by omega, rfl, hlit, Below.refl _ _⟩
  case round =>
    clear hlit
    obtain ⟨k, hk, rfl, HO, hb⟩ := hrel
    by_cases hlt : k < a.length
    · obtain ⟨b1, off1, rfl, hb1, -, he1⟩ := hcell (by omega)
      have c10 : wr.cell? ⟨b1, off1 + k, none⟩ = some _ := (hb.cell (p := ⟨b1, off1 + k, none⟩) hb1).trans (he1 k hlt)
      have HC := Lib.hid (lib_SearchS vb b a[k] fpb wr HU.out hbl ((sSlice sStr).below HB.out hb))
      have HI := Lib.hid (isS_has HU.out a[k])
      clear he1 hcell
      generalize lowS b a[k] = lo at HC
      cases g : hasN b a[k]
      · have HN := Lib.hid (both_no hlt g)
        rw [HI.out, g] at HC
        clear g HI
        go_wp2_with (go_at_call 56; refine HC.out.mono ?_; rintro e w2 ⟨rfl, rfl⟩)
        go_roundw
        case rel => exact ⟨k + 1, by omega, by go_num, by show World.ownsRow _ _ _ _ _ _ _; rw [HN.out]; exact HO.out, hb⟩
        case measure => simp [intOf]; omega
      · have HN := Lib.hid (both_yes hlt g)
        rw [HI.out, g] at HC
        clear g HI
        have hlen : (both (a.take k) b).length ≤ k := Nat.le_trans (both_len _ _) (by simp; omega)
        go_wp2_with (first
          | (go_at_call 56; refine HC.out.mono ?_; rintro e w2 ⟨rfl, rfl⟩)
          | (at_builtin; refine wp_append_one ti27 rfl _ (.string a[k]) rfl rfl (.tmp 23) (.tmp 25) rfl w.heap.size _ (both (a.take k) b).length ((both (a.take k) b).map Value.string) rfl HO.out rfl (by unfold maxLen; omega) (by omega) hb.size ?_; intro v3 w3 hE3 hg3
             have hb3 : Below w.heap.size w w3 := hb.grown hg3 hb.size (fun b hb => (HO.out.lt b hb).1)
             have HO3 : Hid (w3.ownsRow w.heap.size 9 1 v3 (both (a.take (k + 1)) b).length ((both (a.take (k + 1)) b).map Value.string)) := by
               show World.ownsRow _ _ _ _ _ _ _
               rw [HN.out]; simpa using hE3
             clear hE3 hg3 c10 hlen HO))
        go_roundw
        case rel => exact ⟨k + 1, by omega, by go_num, HO3, hb3⟩
        case measure => simp [intOf]; omega
    · have hO := HO.out
      rw [both_all (by omega)] at hO
      obtain ⟨fpr, hR, hOw, -⟩ := own_flat (ok := okStr) hO HSZ.out
      have HR := Lib.hid (And.intro hR hOw)
      clear hO hR hOw HO
      go_wp2
      go_ret
      exact ⟨_, fpr, rfl, HR.out.1, HR.out.2, hb⟩

end Go.Proofs.Ytbkmapaieillmaa

/- PasteTokens of both. (Made by gen_pst2.py.) -/
namespace Go.Proofs.Ytbkmapaieillmaa
open Go.RowKit

/-- What PasteTokens hands back. -/
def PasteOf (a b : Tok) (w : World) (e : Ending) (w' : World) : Prop :=
  ∃ (cs : List Value) (fp : List Nat), e = .returned (.tuple #[.agg cs.toArray, .bool (pasteRes a b).2]) ∧ sTok.R w' cs (pasteRes a b).1 fp ∧ Own w' w.heap.size fp ∧ Below w.heap.size w w'
theorem pasteOf_no {a b : Tok} {w w' : World} (h : pasteRes a b = (zTok, false)) (hb : Below w.heap.size w w') : PasteOf a b w (.returned (.tuple #[.agg #[.int .i64 0, .string ⟨#[]⟩, .bool false, .slice none 0 0], .bool false])) w' :=
  ⟨[.int .i64 0, .string ⟨#[]⟩, .bool false, .slice none 0 0], [], by rw [h], by rw [h]; exact ⟨_, rfl, by unfold okInt zTok; simp, by show (0 : Nat) ≤ _; simp [maxLen], slice_empty sStr _ _ _ (by simp)⟩, Own.nil _ _, hb⟩
theorem pasteOf_yes {a b t : Tok} {hv : Value} {fp : List Nat} {w w' : World} (h : pasteRes a b = (⟨t.kind, t.text, a.spaced, both a.hidden b.hidden⟩, true)) (hk : okInt t.kind) (hs : okStr t.text) (HR : (sSlice sStr).R w' [hv] (both a.hidden b.hidden) fp) (HO : Own w' w.heap.size fp) (hb : Below w.heap.size w w') :
    PasteOf a b w (.returned (.tuple #[.agg #[.int .i64 t.kind, .string t.text, .bool a.spaced, hv], .bool true])) w' :=
  ⟨[.int .i64 t.kind, .string t.text, .bool a.spaced, hv], fp, by rw [h], by rw [h]; exact ⟨_, rfl, hk, hs, HR⟩, HO, hb⟩
theorem tok_hid {w : World} {k : Int} {s : ByteArray} {p : Bool} {h : Value} {x : Tok} {fp : List Nat} (H : sTok.R w [.int .i64 k, .string s, .bool p, h] x fp) : (sSlice sStr).R w [h] x.hidden fp := by
  obtain ⟨h', e, -, -, K⟩ := H
  simp only [List.cons.injEq, and_true] at e
  rw [e.2.2.2]; exact K
theorem tok_hidOk {t : Tok} (h : tokOk t = true) : hidOk t.hidden = true := by unfold tokOk at h; exact (Bool.and_eq_true_iff.1 h).2
/-- A token of one that stands alone in a row. -/
theorem open_head {w : World} {v : Value} {t : Tok} {fp : List Nat} (h : (sSlice sTok).R w [v] [t] fp) :
    ∃ (b off cap : Nat) (ah : Option Addr) (ch : Nat), v = .slice (some ⟨b, off, none⟩) 1 cap ∧ 1 ≤ cap ∧ cap ≤ maxLen ∧ b < w.heap.size ∧ b ∈ fp ∧ w.cell? ⟨b, off, none⟩ = some (.int .i64 t.kind) ∧ w.cell? ⟨b, off + 1, none⟩ = some (.string t.text) ∧ w.cell? ⟨b, off + 2, none⟩ = some (.bool t.spaced) ∧ w.cell? ⟨b, off + 3, none⟩ = some (.slice ah t.hidden.length ch) ∧ okInt t.kind ∧ okStr t.text := by
  obtain ⟨a, cap, rfl, hc, hm, hrow⟩ := open_rows h
  obtain ⟨b, off, fps, rfl, hb, hfp, he⟩ := hrow (by simp)
  obtain ⟨es, hE, hR⟩ := he 0 (by simp)
  obtain ⟨hv, rfl, hk, hs, K⟩ := hR
  obtain ⟨ah, ch, rfl, -⟩ := open_strs K
  have c0 : w.cell? ⟨b, off + 0 * 4, none⟩ = some _ := elem_cell0 hE (by decide) rfl
  have c1 : w.cell? ⟨b, off + 0 * 4 + 1, none⟩ = some _ := elem_cell (j := 1) hE (by decide) rfl
  have c2 : w.cell? ⟨b, off + 0 * 4 + 2, none⟩ = some _ := elem_cell (j := 2) hE (by decide) rfl
  have c3 : w.cell? ⟨b, off + 0 * 4 + 3, none⟩ = some _ := elem_cell (j := 3) hE (by decide) rfl
  simp only [Nat.zero_mul, Nat.add_zero] at c0 c1 c2 c3
  exact ⟨b, off, cap, ah, ch, rfl, by simpa using hc, hm, hb, by rw [hfp]; simp, c0, c1, c2, c3, hk, hs⟩

set_option maxHeartbeats 8000000 in
set_option maxRecDepth 100000 in
theorem spec_PasteTokens (ca cb : List Value) (a b : Tok) (fpa fpb : List Nat) (w : World) (hla : a.hidden.length ≤ 2000000) (hlb : b.hidden.length ≤ 2000000) (HA0 : sTok.R w ca a fpa) (HB0 : sTok.R w cb b fpb) :
    Calls Try.prog 9 #[.agg ca.toArray, .agg cb.toArray] w (PasteOf a b w) := by
  have HA0' := HA0
  have HB0' := HB0
  obtain ⟨ha, rfl, -, -, -⟩ := HA0'
  obtain ⟨hb, rfl, -, -, -⟩ := HB0'

  have hb3 := below3 w #[.int .i64 a.kind, .string a.text, .bool a.spaced, ha] #[.int .i64 b.kind, .string b.text, .bool b.spaced, hb] #[.int .i64 0, .string ⟨#[]⟩, .bool false, .slice none 0 0] 25 25 25
  have HA := Lib.hid (alloc3_blk0 w #[.int .i64 a.kind, .string a.text, .bool a.spaced, ha] #[.int .i64 b.kind, .string b.text, .bool b.spaced, hb] #[.int .i64 0, .string ⟨#[]⟩, .bool false, .slice none 0 0] 25 25 25)
  obtain ⟨g1, g2, hs3⟩ := alloc3_blk w #[.int .i64 a.kind, .string a.text, .bool a.spaced, ha] #[.int .i64 b.kind, .string b.text, .bool b.spaced, hb] #[.int .i64 0, .string ⟨#[]⟩, .bool false, .slice none 0 0] 25 25 25
  have HB := Lib.hid g1
  have HZ := Lib.hid g2
  have HRA := Lib.hid (sTok.below HA0 hb3)
  have HRB := Lib.hid (sTok.below HB0 hb3)
  have HNB : Hid (w.heap.size ∉ fpb ∧ w.heap.size + 1 ∉ fpb) := ⟨fun hx => by have := sTok.lt HB0 _ hx; omega, fun hx => by have := sTok.lt HB0 _ hx; omega⟩
  have hB3 := hb3
  clear HA0 HB0 g1 g2 hb3
  go_enter Try.func9, Try.ntmps9
  go_upto_region 1 with fail
  generalize (((w.alloc (.cells #[.int .i64 a.kind, .string a.text, .bool a.spaced, ha] 25)).alloc (.cells #[.int .i64 b.kind, .string b.text, .bool b.spaced, hb] 25)).alloc (.cells #[.int .i64 0, .string ⟨#[]⟩, .bool false, .slice none 0 0] 25)) = W3 at *
  have HCa := Lib.hid (spec_l1OwnToken _ _ _ W3 hla HRA.out)
  have c0 := cell_of_row W3 (w.heap.size) 0 _ _ _ HA.out
  have c1 := cell_of_row W3 (w.heap.size) 1 _ _ _ HA.out
  have c2 := cell_of_row W3 (w.heap.size) 2 _ _ _ HA.out
  have c3 := cell_of_row W3 (w.heap.size) 3 _ _ _ HA.out
  go_wp2_with fail
  refine HCa.out.mono ?_
  rintro e w4 ⟨aoa, coa, foa, rfl, Ra, loa, tya, b4⟩
  clear c0 c1 c2 c3 HCa
  replace HA := Lib.hid (mbox HA.out b4)
  replace HB := Lib.hid (mbox HB.out b4)
  replace HZ := Lib.hid (mbox HZ.out b4)
  have c0 := cell_of_row w4 (w.heap.size) 0 _ _ _ HA.out
  have cz0 : w4.frozen? ⟨w.heap.size, 0, none⟩ = false := frozen_of_row _ _ 0 _ _ HA.out
  have c1 := cell_of_row w4 (w.heap.size) 1 _ _ _ HA.out
  have cz1 : w4.frozen? ⟨w.heap.size, 1, none⟩ = false := frozen_of_row _ _ 1 _ _ HA.out
  have c2 := cell_of_row w4 (w.heap.size) 2 _ _ _ HA.out
  have cz2 : w4.frozen? ⟨w.heap.size, 2, none⟩ = false := frozen_of_row _ _ 2 _ _ HA.out
  have c3 := cell_of_row w4 (w.heap.size) 3 _ _ _ HA.out
  have cz3 : w4.frozen? ⟨w.heap.size, 3, none⟩ = false := frozen_of_row _ _ 3 _ _ HA.out
  have hsz4 : w.heap.size + 3 ≤ w4.heap.size := by have := b4.size; omega
  have hB4 := set4_below (hB3.trans (b4.mono hB3.size)) (g := w.heap.size) (by omega) (.int .i64 a.kind) (.string a.text) (.bool a.spaced) (.slice aoa a.hidden.length coa)
  replace HRA := Lib.hid (sTok.set4R Ra (g := w.heap.size) (fun hx => by have := loa _ hx; omega) (.int .i64 a.kind) (.string a.text) (.bool a.spaced) (.slice aoa a.hidden.length coa))
  replace HRB := Lib.hid (sTok.set4R (sTok.below HRB.out b4) (g := w.heap.size) (HNB.out.1) (.int .i64 a.kind) (.string a.text) (.bool a.spaced) (.slice aoa a.hidden.length coa))
  replace HA := Lib.hid (set4_at HA.out (.int .i64 a.kind) (.string a.text) (.bool a.spaced) (.slice aoa a.hidden.length coa))
  replace HB := Lib.hid ((set4_far (g := w.heap.size) (by omega) (.int .i64 a.kind) (.string a.text) (.bool a.spaced) (.slice aoa a.hidden.length coa)).trans HB.out)
  replace HZ := Lib.hid ((set4_far (g := w.heap.size) (by omega) (.int .i64 a.kind) (.string a.text) (.bool a.spaced) (.slice aoa a.hidden.length coa)).trans HZ.out)
  have hs4 : w.heap.size + 3 ≤ (set4 w4 (w.heap.size) (.int .i64 a.kind) (.string a.text) (.bool a.spaced) (.slice aoa a.hidden.length coa)).heap.size := by rw [set4_size]; omega
  have HNA : Hid (w.heap.size + 1 ∉ foa) := fun hx => by have := loa _ hx; omega
  unfold set4 at hB4 HRA HRB HA HB HZ hs4
  go_upto_region 2 with fail
  clear c0 c1 c2 c3 cz0 cz1 cz2 cz3 Ra loa tya b4 hsz4
  generalize ((((w4.setCell ⟨w.heap.size, 0, none⟩ (.int .i64 a.kind)).setCell ⟨w.heap.size, 1, none⟩ (.string a.text)).setCell ⟨w.heap.size, 2, none⟩ (.bool a.spaced)).setCell ⟨w.heap.size, 3, none⟩ (.slice aoa a.hidden.length coa)) = W4 at *
  have HCb := Lib.hid (spec_l1OwnToken _ _ _ W4 hlb HRB.out)
  have c0 := cell_of_row W4 (w.heap.size + 1) 0 _ _ _ HB.out
  have c1 := cell_of_row W4 (w.heap.size + 1) 1 _ _ _ HB.out
  have c2 := cell_of_row W4 (w.heap.size + 1) 2 _ _ _ HB.out
  have c3 := cell_of_row W4 (w.heap.size + 1) 3 _ _ _ HB.out
  go_wp2_with fail
  refine HCb.out.mono ?_
  rintro e w5 ⟨aob, cob, fob, rfl, Rb, lob, tyb, b5⟩
  clear c0 c1 c2 c3 HCb
  replace HA := Lib.hid (mbox HA.out b5)
  replace HB := Lib.hid (mbox HB.out b5)
  replace HZ := Lib.hid (mbox HZ.out b5)
  have c0 := cell_of_row w5 (w.heap.size + 1) 0 _ _ _ HB.out
  have cz0 : w5.frozen? ⟨w.heap.size + 1, 0, none⟩ = false := frozen_of_row _ _ 0 _ _ HB.out
  have c1 := cell_of_row w5 (w.heap.size + 1) 1 _ _ _ HB.out
  have cz1 : w5.frozen? ⟨w.heap.size + 1, 1, none⟩ = false := frozen_of_row _ _ 1 _ _ HB.out
  have c2 := cell_of_row w5 (w.heap.size + 1) 2 _ _ _ HB.out
  have cz2 : w5.frozen? ⟨w.heap.size + 1, 2, none⟩ = false := frozen_of_row _ _ 2 _ _ HB.out
  have c3 := cell_of_row w5 (w.heap.size + 1) 3 _ _ _ HB.out
  have cz3 : w5.frozen? ⟨w.heap.size + 1, 3, none⟩ = false := frozen_of_row _ _ 3 _ _ HB.out
  have hsz5 : w.heap.size + 3 ≤ w5.heap.size := by have := b5.size; omega
  have hB5 := set4_below (hB4.trans (b5.mono hB4.size)) (g := w.heap.size + 1) (by omega) (.int .i64 b.kind) (.string b.text) (.bool b.spaced) (.slice aob b.hidden.length cob)
  replace HRB := Lib.hid (sTok.set4R Rb (g := w.heap.size + 1) (fun hx => by have := lob _ hx; omega) (.int .i64 b.kind) (.string b.text) (.bool b.spaced) (.slice aob b.hidden.length cob))
  replace HRA := Lib.hid (sTok.set4R (sTok.below HRA.out b5) (g := w.heap.size + 1) (HNA.out) (.int .i64 b.kind) (.string b.text) (.bool b.spaced) (.slice aob b.hidden.length cob))
  replace HA := Lib.hid ((set4_far (g := w.heap.size + 1) (by omega) (.int .i64 b.kind) (.string b.text) (.bool b.spaced) (.slice aob b.hidden.length cob)).trans HA.out)
  replace HB := Lib.hid (set4_at HB.out (.int .i64 b.kind) (.string b.text) (.bool b.spaced) (.slice aob b.hidden.length cob))
  replace HZ := Lib.hid ((set4_far (g := w.heap.size + 1) (by omega) (.int .i64 b.kind) (.string b.text) (.bool b.spaced) (.slice aob b.hidden.length cob)).trans HZ.out)
  have hs5 : w.heap.size + 3 ≤ (set4 w5 (w.heap.size + 1) (.int .i64 b.kind) (.string b.text) (.bool b.spaced) (.slice aob b.hidden.length cob)).heap.size := by rw [set4_size]; omega
  unfold set4 at hB5 HRA HRB HA HB HZ hs5
  go_upto_region 3 with fail
  clear c0 c1 c2 c3 cz0 cz1 cz2 cz3 Rb lob tyb b5 hsz5
  generalize ((((w5.setCell ⟨w.heap.size + 1, 0, none⟩ (.int .i64 b.kind)).setCell ⟨w.heap.size + 1, 1, none⟩ (.string b.text)).setCell ⟨w.heap.size + 1, 2, none⟩ (.bool b.spaced)).setCell ⟨w.heap.size + 1, 3, none⟩ (.slice aob b.hidden.length cob)) = W5 at *
  have HVA := Lib.hid (spec_TokenValid _ _ _ W5 HRA.out)
  have c0 := cell_of_row W5 (w.heap.size) 0 _ _ _ HA.out
  have c1 := cell_of_row W5 (w.heap.size) 1 _ _ _ HA.out
  have c2 := cell_of_row W5 (w.heap.size) 2 _ _ _ HA.out
  have c3 := cell_of_row W5 (w.heap.size) 3 _ _ _ HA.out
  cases hva : tokOk a
  · rw [hva] at HVA
    have HF := Lib.hid (paste_no1 (b := b) hva)
    clear hva
    go_wp2_with fail
    refine HVA.out.mono ?_
    rintro e w6 ⟨rfl, b6⟩
    replace HZ := Lib.hid (mbox HZ.out b6)
    have hB6 := hB5.trans (b6.mono hB5.size)
    have z0 := cell_of_row w6 (w.heap.size + 1 + 1) 0 _ _ _ HZ.out
    have zz0 : w6.frozen? ⟨w.heap.size + 1 + 1, 0, none⟩ = false := frozen_of_row _ _ 0 _ _ HZ.out
    have z1 := cell_of_row w6 (w.heap.size + 1 + 1) 1 _ _ _ HZ.out
    have zz1 : w6.frozen? ⟨w.heap.size + 1 + 1, 1, none⟩ = false := frozen_of_row _ _ 1 _ _ HZ.out
    have z2 := cell_of_row w6 (w.heap.size + 1 + 1) 2 _ _ _ HZ.out
    have zz2 : w6.frozen? ⟨w.heap.size + 1 + 1, 2, none⟩ = false := frozen_of_row _ _ 2 _ _ HZ.out
    have z3 := cell_of_row w6 (w.heap.size + 1 + 1) 3 _ _ _ HZ.out
    have zz3 : w6.frozen? ⟨w.heap.size + 1 + 1, 3, none⟩ = false := frozen_of_row _ _ 3 _ _ HZ.out
    have HS := Lib.hid (set4_at HZ.out (.int .i64 0) (.string ⟨#[]⟩) (.bool false) (.slice none 0 0))
    have HBF := Lib.hid (set4_below hB6 (g := w.heap.size + 1 + 1) (by omega) (.int .i64 0) (.string ⟨#[]⟩) (.bool false) (.slice none 0 0))
    unfold set4 at HS HBF
    go_wp2
    refine bodyPost_ret (results_cell2 rfl _ _ (w.heap.size + 1 + 1) _ _ _ _ rfl HS.out Try.underlying25 rfl (by kernel_rfl)) rfl ?_
    exact pasteOf_no HF.out HBF.out
  rw [hva] at HVA
  go_wp2_with fail
  refine HVA.out.mono ?_
  rintro e w6 ⟨rfl, b6⟩
  clear c0 c1 c2 c3 HVA
  replace HA := Lib.hid (mbox HA.out b6)
  replace HB := Lib.hid (mbox HB.out b6)
  replace HZ := Lib.hid (mbox HZ.out b6)
  replace HRA := Lib.hid (sTok.below HRA.out b6)
  replace HRB := Lib.hid (sTok.below HRB.out b6)
  have hB6 := hB5.trans (b6.mono hB5.size)
  clear b6
  have HVB := Lib.hid (spec_TokenValid _ _ _ w6 HRB.out)
  have c0 := cell_of_row w6 (w.heap.size + 1) 0 _ _ _ HB.out
  have c1 := cell_of_row w6 (w.heap.size + 1) 1 _ _ _ HB.out
  have c2 := cell_of_row w6 (w.heap.size + 1) 2 _ _ _ HB.out
  have c3 := cell_of_row w6 (w.heap.size + 1) 3 _ _ _ HB.out
  cases hvb : tokOk b
  · rw [hvb] at HVB
    have HF := Lib.hid (paste_no2 (a := a) hvb)
    clear hva hvb
    go_wp2_with fail
    refine HVB.out.mono ?_
    rintro e w7 ⟨rfl, b7⟩
    replace HZ := Lib.hid (mbox HZ.out b7)
    have hB7 := hB6.trans (b7.mono hB6.size)
    have z0 := cell_of_row w7 (w.heap.size + 1 + 1) 0 _ _ _ HZ.out
    have zz0 : w7.frozen? ⟨w.heap.size + 1 + 1, 0, none⟩ = false := frozen_of_row _ _ 0 _ _ HZ.out
    have z1 := cell_of_row w7 (w.heap.size + 1 + 1) 1 _ _ _ HZ.out
    have zz1 : w7.frozen? ⟨w.heap.size + 1 + 1, 1, none⟩ = false := frozen_of_row _ _ 1 _ _ HZ.out
    have z2 := cell_of_row w7 (w.heap.size + 1 + 1) 2 _ _ _ HZ.out
    have zz2 : w7.frozen? ⟨w.heap.size + 1 + 1, 2, none⟩ = false := frozen_of_row _ _ 2 _ _ HZ.out
    have z3 := cell_of_row w7 (w.heap.size + 1 + 1) 3 _ _ _ HZ.out
    have zz3 : w7.frozen? ⟨w.heap.size + 1 + 1, 3, none⟩ = false := frozen_of_row _ _ 3 _ _ HZ.out
    have HS := Lib.hid (set4_at HZ.out (.int .i64 0) (.string ⟨#[]⟩) (.bool false) (.slice none 0 0))
    have HBF := Lib.hid (set4_below hB7 (g := w.heap.size + 1 + 1) (by omega) (.int .i64 0) (.string ⟨#[]⟩) (.bool false) (.slice none 0 0))
    unfold set4 at HS HBF
    go_wp2
    refine bodyPost_ret (results_cell2 rfl _ _ (w.heap.size + 1 + 1) _ _ _ _ rfl HS.out Try.underlying25 rfl (by kernel_rfl)) rfl ?_
    exact pasteOf_no HF.out HBF.out
  rw [hvb] at HVB
  go_wp2_with fail
  refine HVB.out.mono ?_
  rintro e w7 ⟨rfl, b7⟩
  clear c0 c1 c2 c3 HVB
  replace HA := Lib.hid (mbox HA.out b7)
  replace HB := Lib.hid (mbox HB.out b7)
  replace HZ := Lib.hid (mbox HZ.out b7)
  replace HRA := Lib.hid (sTok.below HRA.out b7)
  replace HRB := Lib.hid (sTok.below HRB.out b7)
  have hB7 := hB6.trans (b7.mono hB6.size)
  clear b7
  have hzt := mlt HZ.out
  have hsa := (tokOk_facts hva).2
  have hsb := (tokOk_facts hvb).2
  have HT := Lib.hid (fun W => spec_TokensOf (a.text ++ b.text) W (by rw [ByteArray.size_append]; unfold maxLen; omega))
  have ad := fun W => run_string_add_sum (P := Try.prog) W a.text b.text (by omega)
  obtain ⟨l, ok, htr⟩ : ∃ l ok, tokRes (a.text ++ b.text) = (l, ok) := ⟨_, _, rfl⟩
  have HTR := Lib.hid htr
  rw [htr] at HT
  clear htr
  have HVV := Lib.hid (And.intro hva hvb)
  clear hva hvb
  have c0 := cell_of_row w7 (w.heap.size) 0 _ _ _ HA.out
  have c1 := cell_of_row w7 (w.heap.size) 1 _ _ _ HA.out
  have c2 := cell_of_row w7 (w.heap.size) 2 _ _ _ HA.out
  have c3 := cell_of_row w7 (w.heap.size) 3 _ _ _ HA.out
  have d0 := cell_of_row w7 (w.heap.size + 1) 0 _ _ _ HB.out
  have d1 := cell_of_row w7 (w.heap.size + 1) 1 _ _ _ HB.out
  have d2 := cell_of_row w7 (w.heap.size + 1) 2 _ _ _ HB.out
  have d3 := cell_of_row w7 (w.heap.size + 1) 3 _ _ _ HB.out
  go_wp2_with fail
  refine (HT.out _).mono ?_
  rintro e w8 ⟨vt, fpt, rfl, RT, OT, b8⟩
  clear c0 c1 c2 c3 d0 d1 d2 d3 HT ad
  replace HA := Lib.hid (mbox HA.out b8)
  replace HB := Lib.hid (mbox HB.out b8)
  replace HZ := Lib.hid (mbox HZ.out b8)
  replace HRA := Lib.hid (sTok.below HRA.out b8)
  replace HRB := Lib.hid (sTok.below HRB.out b8)
  have hB8 := hB7.trans (b8.mono hB7.size)
  clear b8
  cases ok
  · have HF := Lib.hid (paste_bad HTR.out)
    clear HTR RT OT
    have z0 := cell_of_row w8 (w.heap.size + 1 + 1) 0 _ _ _ HZ.out
    have zz0 : w8.frozen? ⟨w.heap.size + 1 + 1, 0, none⟩ = false := frozen_of_row _ _ 0 _ _ HZ.out
    have z1 := cell_of_row w8 (w.heap.size + 1 + 1) 1 _ _ _ HZ.out
    have zz1 : w8.frozen? ⟨w.heap.size + 1 + 1, 1, none⟩ = false := frozen_of_row _ _ 1 _ _ HZ.out
    have z2 := cell_of_row w8 (w.heap.size + 1 + 1) 2 _ _ _ HZ.out
    have zz2 : w8.frozen? ⟨w.heap.size + 1 + 1, 2, none⟩ = false := frozen_of_row _ _ 2 _ _ HZ.out
    have z3 := cell_of_row w8 (w.heap.size + 1 + 1) 3 _ _ _ HZ.out
    have zz3 : w8.frozen? ⟨w.heap.size + 1 + 1, 3, none⟩ = false := frozen_of_row _ _ 3 _ _ HZ.out
    have HS := Lib.hid (set4_at HZ.out (.int .i64 0) (.string ⟨#[]⟩) (.bool false) (.slice none 0 0))
    have HBF := Lib.hid (set4_below hB8 (g := w.heap.size + 1 + 1) (by omega) (.int .i64 0) (.string ⟨#[]⟩) (.bool false) (.slice none 0 0))
    unfold set4 at HS HBF
    go_wp2
    refine bodyPost_ret (results_cell2 rfl _ _ (w.heap.size + 1 + 1) _ _ _ _ rfl HS.out Try.underlying25 rfl (by kernel_rfl)) rfl ?_
    exact pasteOf_no HF.out HBF.out
  by_cases hl1 : l.length = 1
  rotate_left
  · have HF := Lib.hid (paste_len HTR.out hl1)
    obtain ⟨at_, ct_, rfl, -⟩ := open_rows RT
    have hl2 : ((l.length : Int) != 1) = true := by simp; omega
    clear HTR RT hl1 OT
    have z0 := cell_of_row w8 (w.heap.size + 1 + 1) 0 _ _ _ HZ.out
    have zz0 : w8.frozen? ⟨w.heap.size + 1 + 1, 0, none⟩ = false := frozen_of_row _ _ 0 _ _ HZ.out
    have z1 := cell_of_row w8 (w.heap.size + 1 + 1) 1 _ _ _ HZ.out
    have zz1 : w8.frozen? ⟨w.heap.size + 1 + 1, 1, none⟩ = false := frozen_of_row _ _ 1 _ _ HZ.out
    have z2 := cell_of_row w8 (w.heap.size + 1 + 1) 2 _ _ _ HZ.out
    have zz2 : w8.frozen? ⟨w.heap.size + 1 + 1, 2, none⟩ = false := frozen_of_row _ _ 2 _ _ HZ.out
    have z3 := cell_of_row w8 (w.heap.size + 1 + 1) 3 _ _ _ HZ.out
    have zz3 : w8.frozen? ⟨w.heap.size + 1 + 1, 3, none⟩ = false := frozen_of_row _ _ 3 _ _ HZ.out
    have HS := Lib.hid (set4_at HZ.out (.int .i64 0) (.string ⟨#[]⟩) (.bool false) (.slice none 0 0))
    have HBF := Lib.hid (set4_below hB8 (g := w.heap.size + 1 + 1) (by omega) (.int .i64 0) (.string ⟨#[]⟩) (.bool false) (.slice none 0 0))
    unfold set4 at HS HBF
    go_wp2
    refine bodyPost_ret (results_cell2 rfl _ _ (w.heap.size + 1 + 1) _ _ _ _ rfl HS.out Try.underlying25 rfl (by kernel_rfl)) rfl ?_
    exact pasteOf_no HF.out HBF.out
  obtain ⟨t, rfl⟩ : ∃ t, l = [t] := List.length_eq_one_iff.1 hl1
  clear hl1
  have HF := Lib.hid (paste_yes HVV.out.1 HVV.out.2 HTR.out)
  obtain ⟨bt, ot, ct, ath, cth, rfl, hc1, hcm, hbt, hmem, t0, t1, t2, t3, okk, oks⟩ := open_head RT
  have hbt2 := (OT.2 bt hmem).1
  unfold maxLen at hcm
  clear RT HTR OT hmem
  have hla2 : a.hidden.length ≤ 1000000 := by have := (hid_at (tok_hidOk HVV.out.1)).1; omega
  have HL := Lib.hid (fun U (hU : Below w8.heap.size w8 U) => spec_l9Both _ _ a.hidden b.hidden _ _ U hla2 (tok_hid (sTok.below HRA.out hU)) (tok_hid (sTok.below HRB.out hU)))
  have c0 := cell_of_row w8 (w.heap.size) 0 _ _ _ HA.out
  have c1 := cell_of_row w8 (w.heap.size) 1 _ _ _ HA.out
  have c2 := cell_of_row w8 (w.heap.size) 2 _ _ _ HA.out
  have c3 := cell_of_row w8 (w.heap.size) 3 _ _ _ HA.out
  have d0 := cell_of_row w8 (w.heap.size + 1) 0 _ _ _ HB.out
  have d1 := cell_of_row w8 (w.heap.size + 1) 1 _ _ _ HB.out
  have d2 := cell_of_row w8 (w.heap.size + 1) 2 _ _ _ HB.out
  have d3 := cell_of_row w8 (w.heap.size + 1) 3 _ _ _ HB.out
  have hz9 : w.heap.size + 3 ≤ w8.heap.size := by have := hB8.size; have := mlt HZ.out; omega
  have hcs : Below w8.heap.size w8 w8.drew := belowN (Below.refl _ _) 1
  replace c2 : w8.drew.cell? ⟨w.heap.size, 2, none⟩ = some (.bool a.spaced) := c2
  replace c3 : w8.drew.cell? ⟨w.heap.size, 3, none⟩ = some (.slice aoa a.hidden.length coa) := c3
  replace d3 : w8.drew.cell? ⟨w.heap.size + 1, 3, none⟩ = some (.slice aob b.hidden.length cob) := d3
  replace t0 : w8.drew.cell? ⟨bt, ot, none⟩ = some (.int .i64 t.kind) := t0
  replace t1 : w8.drew.cell? ⟨bt, ot + 1, none⟩ = some (.string t.text) := t1
  have HK1 : ∀ U : World, Below w8.drew.heap.size w8.drew U → U.cell? ⟨w.heap.size, 2, none⟩ = some (.bool a.spaced) ∧ U.cell? ⟨w.heap.size, 3, none⟩ = some (.slice aoa a.hidden.length coa) ∧ U.cell? ⟨w.heap.size + 1, 3, none⟩ = some (.slice aob b.hidden.length cob) ∧ U.cell? ⟨bt, ot, none⟩ = some (.int .i64 t.kind) ∧ U.cell? ⟨bt, ot + 1, none⟩ = some (.string t.text) := fun U hU => ⟨(hU.cell (by show _ < w8.heap.size; simp only; omega)).trans c2, (hU.cell (by show _ < w8.heap.size; simp only; omega)).trans c3, (hU.cell (by show _ < w8.heap.size; simp only; omega)).trans d3, (hU.cell (by show _ < w8.heap.size; simp only; omega)).trans t0, (hU.cell (by show _ < w8.heap.size; simp only; omega)).trans t1⟩
  have HK2 : ∀ U : World, Below w8.drew.heap.size w8.drew U → ∀ v0 v1 v2 v3 : Value, ((((U.setCell ⟨w.heap.size + 1 + 1, 0, none⟩ v0).setCell ⟨w.heap.size + 1 + 1, 1, none⟩ v1).setCell ⟨w.heap.size + 1 + 1, 2, none⟩ v2).setCell ⟨w.heap.size + 1 + 1, 3, none⟩ v3).cell? ⟨w.heap.size, 2, none⟩ = some (.bool a.spaced) ∧ ((((U.setCell ⟨w.heap.size + 1 + 1, 0, none⟩ v0).setCell ⟨w.heap.size + 1 + 1, 1, none⟩ v1).setCell ⟨w.heap.size + 1 + 1, 2, none⟩ v2).setCell ⟨w.heap.size + 1 + 1, 3, none⟩ v3).cell? ⟨w.heap.size, 3, none⟩ = some (.slice aoa a.hidden.length coa) ∧ ((((U.setCell ⟨w.heap.size + 1 + 1, 0, none⟩ v0).setCell ⟨w.heap.size + 1 + 1, 1, none⟩ v1).setCell ⟨w.heap.size + 1 + 1, 2, none⟩ v2).setCell ⟨w.heap.size + 1 + 1, 3, none⟩ v3).cell? ⟨w.heap.size + 1, 3, none⟩ = some (.slice aob b.hidden.length cob) ∧ ((((U.setCell ⟨w.heap.size + 1 + 1, 0, none⟩ v0).setCell ⟨w.heap.size + 1 + 1, 1, none⟩ v1).setCell ⟨w.heap.size + 1 + 1, 2, none⟩ v2).setCell ⟨w.heap.size + 1 + 1, 3, none⟩ v3).cell? ⟨bt, ot, none⟩ = some (.int .i64 t.kind) ∧ ((((U.setCell ⟨w.heap.size + 1 + 1, 0, none⟩ v0).setCell ⟨w.heap.size + 1 + 1, 1, none⟩ v1).setCell ⟨w.heap.size + 1 + 1, 2, none⟩ v2).setCell ⟨w.heap.size + 1 + 1, 3, none⟩ v3).cell? ⟨bt, ot + 1, none⟩ = some (.string t.text) := fun U hU v0 v1 v2 v3 => by
    obtain ⟨k1, k2, k3, k4, k5⟩ := HK1 U hU
    exact ⟨(chain_cell (by omega) _ _ _ _ _).trans k1, (chain_cell (by omega) _ _ _ _ _).trans k2, (chain_cell (by omega) _ _ _ _ _).trans k3, (chain_cell (by omega) _ _ _ _ _).trans k4, (chain_cell (by omega) _ _ _ _ _).trans k5⟩
  have HZD : Hid (w8.drew.heap[w.heap.size + 1 + 1]? = _) := HZ
  clear c0 c1 d0 d1 d2
  go_wp2_with fail
  go_region_held3 (fun w' => w'.cell? ⟨w.heap.size, 2, none⟩ = some (.bool a.spaced) ∧ w'.cell? ⟨w.heap.size, 3, none⟩ = some (.slice aoa a.hidden.length coa) ∧ w'.cell? ⟨w.heap.size + 1, 3, none⟩ = some (.slice aob b.hidden.length cob) ∧ w'.cell? ⟨bt, ot, none⟩ = some (.int .i64 t.kind) ∧ w'.cell? ⟨bt, ot + 1, none⟩ = some (.string t.text))
    (first | (with_reducible exact ⟨c2, c3, d3, t0, t1⟩) | (with_reducible exact HK1 _ b9) | (with_reducible exact HK2 _ b9 _ _ _ _))
    (first | (go_at_call 36; (with_reducible refine (HL.out _ hcs).mono ?_); rintro e w9 ⟨vv, fv, rfl, RV, OV, b9⟩; obtain ⟨av, cv, rfl, -⟩ := open_strs RV; have HZN := mbox HZD.out b9; have z0 := cell_of_row _ (w.heap.size + 1 + 1) 0 _ _ _ HZN; have zz0 : w9.frozen? ⟨w.heap.size + 1 + 1, 0, none⟩ = false := frozen_of_row _ _ 0 _ _ HZN; have z1 := cell_of_row _ (w.heap.size + 1 + 1) 1 _ _ _ HZN; have zz1 : w9.frozen? ⟨w.heap.size + 1 + 1, 1, none⟩ = false := frozen_of_row _ _ 1 _ _ HZN; have z2 := cell_of_row _ (w.heap.size + 1 + 1) 2 _ _ _ HZN; have zz2 : w9.frozen? ⟨w.heap.size + 1 + 1, 2, none⟩ = false := frozen_of_row _ _ 2 _ _ HZN; have z3 := cell_of_row _ (w.heap.size + 1 + 1) 3 _ _ _ HZN; have zz3 : w9.frozen? ⟨w.heap.size + 1 + 1, 3, none⟩ = false := frozen_of_row _ _ 3 _ _ HZN))
  have HS := Lib.hid (set4_at (mbox HZD.out b9) (.int .i64 t.kind) (.string t.text) (.bool a.spaced) (.slice av (both a.hidden b.hidden).length cv))
  have hbk := hB8.trans ((hcs.trans (b9.mono (Nat.le_refl _))).mono hB8.size)
  have HBF := Lib.hid (set4_below hbk (g := w.heap.size + 1 + 1) (by omega) (.int .i64 t.kind) (.string t.text) (.bool a.spaced) (.slice av (both a.hidden b.hidden).length cv))
  have hfv : w.heap.size + 1 + 1 ∉ fv := fun hx => by have h1 := (OV.2 _ hx).1; have h2 : w8.heap.size ≤ w.heap.size + 1 + 1 := h1; omega
  have HRF := Lib.hid ((sSlice sStr).set4R RV hfv (.int .i64 t.kind) (.string t.text) (.bool a.spaced) (.slice av (both a.hidden b.hidden).length cv))
  have HOF := Lib.hid (Own.set4 (g := w.heap.size + 1 + 1) (OV.lower (show w.heap.size ≤ w8.heap.size by omega)) (.int .i64 t.kind) (.string t.text) (.bool a.spaced) (.slice av (both a.hidden b.hidden).length cv))
  unfold set4 at HS HBF HRF HOF
  go_wp2
  refine bodyPost_ret (results_cell2 rfl _ _ (w.heap.size + 1 + 1) _ _ _ _ rfl HS.out Try.underlying25 rfl (by kernel_rfl)) rfl ?_
  exact pasteOf_yes HF.out okk oks HRF.out HOF.out HBF.out

set_option maxHeartbeats 8000000 in
set_option maxRecDepth 100000 in
theorem impl_PasteTokens (ca cb : List Value) (a b : Tok) (fpa fpb : List Nat) (w : World) (hla : a.hidden.length ≤ 2000000) (hlb : b.hidden.length ≤ 2000000) (HA0 : sTok.R w ca a fpa) (HB0 : sTok.R w cb b fpb) :
    Calls Try.prog 8 #[.agg ca.toArray, .agg cb.toArray] w (PasteOf a b w) := by
  have HA0' := HA0
  have HB0' := HB0
  obtain ⟨ha, rfl, -, -, -⟩ := HA0'
  obtain ⟨hb, rfl, -, -, -⟩ := HB0'

  have hb3 := below3 w #[.int .i64 a.kind, .string a.text, .bool a.spaced, ha] #[.int .i64 b.kind, .string b.text, .bool b.spaced, hb] #[.int .i64 0, .string ⟨#[]⟩, .bool false, .slice none 0 0] 25 25 25
  have HA := Lib.hid (alloc3_blk0 w #[.int .i64 a.kind, .string a.text, .bool a.spaced, ha] #[.int .i64 b.kind, .string b.text, .bool b.spaced, hb] #[.int .i64 0, .string ⟨#[]⟩, .bool false, .slice none 0 0] 25 25 25)
  obtain ⟨g1, g2, hs3⟩ := alloc3_blk w #[.int .i64 a.kind, .string a.text, .bool a.spaced, ha] #[.int .i64 b.kind, .string b.text, .bool b.spaced, hb] #[.int .i64 0, .string ⟨#[]⟩, .bool false, .slice none 0 0] 25 25 25
  have HB := Lib.hid g1
  have HZ := Lib.hid g2
  have HRA := Lib.hid (sTok.below HA0 hb3)
  have HRB := Lib.hid (sTok.below HB0 hb3)
  have HNB : Hid (w.heap.size ∉ fpb ∧ w.heap.size + 1 ∉ fpb) := ⟨fun hx => by have := sTok.lt HB0 _ hx; omega, fun hx => by have := sTok.lt HB0 _ hx; omega⟩
  have hB3 := hb3
  clear HA0 HB0 g1 g2 hb3
  go_enter Try.func8, Try.ntmps8
  go_upto_region 1 with fail
  generalize (((w.alloc (.cells #[.int .i64 a.kind, .string a.text, .bool a.spaced, ha] 25)).alloc (.cells #[.int .i64 b.kind, .string b.text, .bool b.spaced, hb] 25)).alloc (.cells #[.int .i64 0, .string ⟨#[]⟩, .bool false, .slice none 0 0] 25)) = W3 at *
  have HVA := Lib.hid (impl_TokenValid _ _ _ W3 HRA.out)
  have c0 := cell_of_row W3 (w.heap.size) 0 _ _ _ HA.out
  have c1 := cell_of_row W3 (w.heap.size) 1 _ _ _ HA.out
  have c2 := cell_of_row W3 (w.heap.size) 2 _ _ _ HA.out
  have c3 := cell_of_row W3 (w.heap.size) 3 _ _ _ HA.out
  cases hva : tokOk a
  · rw [hva] at HVA
    have HF := Lib.hid (paste_no1 (b := b) hva)
    clear hva
    go_wp2_with fail
    refine HVA.out.mono ?_
    rintro e w6 ⟨rfl, b6⟩
    replace HZ := Lib.hid (mbox HZ.out b6)
    have hB6 := hB3.trans (b6.mono hB3.size)
    have z0 := cell_of_row w6 (w.heap.size + 1 + 1) 0 _ _ _ HZ.out
    have zz0 : w6.frozen? ⟨w.heap.size + 1 + 1, 0, none⟩ = false := frozen_of_row _ _ 0 _ _ HZ.out
    have z1 := cell_of_row w6 (w.heap.size + 1 + 1) 1 _ _ _ HZ.out
    have zz1 : w6.frozen? ⟨w.heap.size + 1 + 1, 1, none⟩ = false := frozen_of_row _ _ 1 _ _ HZ.out
    have z2 := cell_of_row w6 (w.heap.size + 1 + 1) 2 _ _ _ HZ.out
    have zz2 : w6.frozen? ⟨w.heap.size + 1 + 1, 2, none⟩ = false := frozen_of_row _ _ 2 _ _ HZ.out
    have z3 := cell_of_row w6 (w.heap.size + 1 + 1) 3 _ _ _ HZ.out
    have zz3 : w6.frozen? ⟨w.heap.size + 1 + 1, 3, none⟩ = false := frozen_of_row _ _ 3 _ _ HZ.out
    have HS := Lib.hid (set4_at HZ.out (.int .i64 0) (.string ⟨#[]⟩) (.bool false) (.slice none 0 0))
    have HBF := Lib.hid (set4_below hB6 (g := w.heap.size + 1 + 1) (by omega) (.int .i64 0) (.string ⟨#[]⟩) (.bool false) (.slice none 0 0))
    unfold set4 at HS HBF
    go_wp2
    refine bodyPost_ret (results_cell2 rfl _ _ (w.heap.size + 1 + 1) _ _ _ _ rfl HS.out Try.underlying25 rfl (by kernel_rfl)) rfl ?_
    exact pasteOf_no HF.out HBF.out
  rw [hva] at HVA
  go_wp2_with fail
  refine HVA.out.mono ?_
  rintro e w6 ⟨rfl, b6⟩
  clear c0 c1 c2 c3 HVA
  replace HA := Lib.hid (mbox HA.out b6)
  replace HB := Lib.hid (mbox HB.out b6)
  replace HZ := Lib.hid (mbox HZ.out b6)
  replace HRA := Lib.hid (sTok.below HRA.out b6)
  replace HRB := Lib.hid (sTok.below HRB.out b6)
  have hB6 := hB3.trans (b6.mono hB3.size)
  clear b6
  have HVB := Lib.hid (impl_TokenValid _ _ _ w6 HRB.out)
  have c0 := cell_of_row w6 (w.heap.size + 1) 0 _ _ _ HB.out
  have c1 := cell_of_row w6 (w.heap.size + 1) 1 _ _ _ HB.out
  have c2 := cell_of_row w6 (w.heap.size + 1) 2 _ _ _ HB.out
  have c3 := cell_of_row w6 (w.heap.size + 1) 3 _ _ _ HB.out
  cases hvb : tokOk b
  · rw [hvb] at HVB
    have HF := Lib.hid (paste_no2 (a := a) hvb)
    clear hva hvb
    go_wp2_with fail
    refine HVB.out.mono ?_
    rintro e w7 ⟨rfl, b7⟩
    replace HZ := Lib.hid (mbox HZ.out b7)
    have hB7 := hB6.trans (b7.mono hB6.size)
    have z0 := cell_of_row w7 (w.heap.size + 1 + 1) 0 _ _ _ HZ.out
    have zz0 : w7.frozen? ⟨w.heap.size + 1 + 1, 0, none⟩ = false := frozen_of_row _ _ 0 _ _ HZ.out
    have z1 := cell_of_row w7 (w.heap.size + 1 + 1) 1 _ _ _ HZ.out
    have zz1 : w7.frozen? ⟨w.heap.size + 1 + 1, 1, none⟩ = false := frozen_of_row _ _ 1 _ _ HZ.out
    have z2 := cell_of_row w7 (w.heap.size + 1 + 1) 2 _ _ _ HZ.out
    have zz2 : w7.frozen? ⟨w.heap.size + 1 + 1, 2, none⟩ = false := frozen_of_row _ _ 2 _ _ HZ.out
    have z3 := cell_of_row w7 (w.heap.size + 1 + 1) 3 _ _ _ HZ.out
    have zz3 : w7.frozen? ⟨w.heap.size + 1 + 1, 3, none⟩ = false := frozen_of_row _ _ 3 _ _ HZ.out
    have HS := Lib.hid (set4_at HZ.out (.int .i64 0) (.string ⟨#[]⟩) (.bool false) (.slice none 0 0))
    have HBF := Lib.hid (set4_below hB7 (g := w.heap.size + 1 + 1) (by omega) (.int .i64 0) (.string ⟨#[]⟩) (.bool false) (.slice none 0 0))
    unfold set4 at HS HBF
    go_wp2
    refine bodyPost_ret (results_cell2 rfl _ _ (w.heap.size + 1 + 1) _ _ _ _ rfl HS.out Try.underlying25 rfl (by kernel_rfl)) rfl ?_
    exact pasteOf_no HF.out HBF.out
  rw [hvb] at HVB
  go_wp2_with fail
  refine HVB.out.mono ?_
  rintro e w7 ⟨rfl, b7⟩
  clear c0 c1 c2 c3 HVB
  replace HA := Lib.hid (mbox HA.out b7)
  replace HB := Lib.hid (mbox HB.out b7)
  replace HZ := Lib.hid (mbox HZ.out b7)
  replace HRA := Lib.hid (sTok.below HRA.out b7)
  replace HRB := Lib.hid (sTok.below HRB.out b7)
  have hB7 := hB6.trans (b7.mono hB6.size)
  clear b7
  have hzt := mlt HZ.out
  have hsa := (tokOk_facts hva).2
  have hsb := (tokOk_facts hvb).2
  have HT := Lib.hid (fun W => impl_TokensOf (a.text ++ b.text) W (by rw [ByteArray.size_append]; unfold maxLen; omega))
  have ad := fun W => run_string_add_sum (P := Try.prog) W a.text b.text (by omega)
  obtain ⟨l, ok, htr⟩ : ∃ l ok, tokRes (a.text ++ b.text) = (l, ok) := ⟨_, _, rfl⟩
  have HTR := Lib.hid htr
  rw [htr] at HT
  clear htr
  have HVV := Lib.hid (And.intro hva hvb)
  clear hva hvb
  have c0 := cell_of_row w7 (w.heap.size) 0 _ _ _ HA.out
  have c1 := cell_of_row w7 (w.heap.size) 1 _ _ _ HA.out
  have c2 := cell_of_row w7 (w.heap.size) 2 _ _ _ HA.out
  have c3 := cell_of_row w7 (w.heap.size) 3 _ _ _ HA.out
  have d0 := cell_of_row w7 (w.heap.size + 1) 0 _ _ _ HB.out
  have d1 := cell_of_row w7 (w.heap.size + 1) 1 _ _ _ HB.out
  have d2 := cell_of_row w7 (w.heap.size + 1) 2 _ _ _ HB.out
  have d3 := cell_of_row w7 (w.heap.size + 1) 3 _ _ _ HB.out
  go_wp2_with fail
  refine (HT.out _).mono ?_
  rintro e w8 ⟨vt, fpt, rfl, RT, OT, b8⟩
  clear c0 c1 c2 c3 d0 d1 d2 d3 HT ad
  replace HA := Lib.hid (mbox HA.out b8)
  replace HB := Lib.hid (mbox HB.out b8)
  replace HZ := Lib.hid (mbox HZ.out b8)
  replace HRA := Lib.hid (sTok.below HRA.out b8)
  replace HRB := Lib.hid (sTok.below HRB.out b8)
  have hB8 := hB7.trans (b8.mono hB7.size)
  clear b8
  cases ok
  · have HF := Lib.hid (paste_bad HTR.out)
    clear HTR RT OT
    have z0 := cell_of_row w8 (w.heap.size + 1 + 1) 0 _ _ _ HZ.out
    have zz0 : w8.frozen? ⟨w.heap.size + 1 + 1, 0, none⟩ = false := frozen_of_row _ _ 0 _ _ HZ.out
    have z1 := cell_of_row w8 (w.heap.size + 1 + 1) 1 _ _ _ HZ.out
    have zz1 : w8.frozen? ⟨w.heap.size + 1 + 1, 1, none⟩ = false := frozen_of_row _ _ 1 _ _ HZ.out
    have z2 := cell_of_row w8 (w.heap.size + 1 + 1) 2 _ _ _ HZ.out
    have zz2 : w8.frozen? ⟨w.heap.size + 1 + 1, 2, none⟩ = false := frozen_of_row _ _ 2 _ _ HZ.out
    have z3 := cell_of_row w8 (w.heap.size + 1 + 1) 3 _ _ _ HZ.out
    have zz3 : w8.frozen? ⟨w.heap.size + 1 + 1, 3, none⟩ = false := frozen_of_row _ _ 3 _ _ HZ.out
    have HS := Lib.hid (set4_at HZ.out (.int .i64 0) (.string ⟨#[]⟩) (.bool false) (.slice none 0 0))
    have HBF := Lib.hid (set4_below hB8 (g := w.heap.size + 1 + 1) (by omega) (.int .i64 0) (.string ⟨#[]⟩) (.bool false) (.slice none 0 0))
    unfold set4 at HS HBF
    go_wp2
    refine bodyPost_ret (results_cell2 rfl _ _ (w.heap.size + 1 + 1) _ _ _ _ rfl HS.out Try.underlying25 rfl (by kernel_rfl)) rfl ?_
    exact pasteOf_no HF.out HBF.out
  by_cases hl1 : l.length = 1
  rotate_left
  · have HF := Lib.hid (paste_len HTR.out hl1)
    obtain ⟨at_, ct_, rfl, -⟩ := open_rows RT
    have hl2 : ((l.length : Int) != 1) = true := by simp; omega
    clear HTR RT hl1 OT
    have z0 := cell_of_row w8 (w.heap.size + 1 + 1) 0 _ _ _ HZ.out
    have zz0 : w8.frozen? ⟨w.heap.size + 1 + 1, 0, none⟩ = false := frozen_of_row _ _ 0 _ _ HZ.out
    have z1 := cell_of_row w8 (w.heap.size + 1 + 1) 1 _ _ _ HZ.out
    have zz1 : w8.frozen? ⟨w.heap.size + 1 + 1, 1, none⟩ = false := frozen_of_row _ _ 1 _ _ HZ.out
    have z2 := cell_of_row w8 (w.heap.size + 1 + 1) 2 _ _ _ HZ.out
    have zz2 : w8.frozen? ⟨w.heap.size + 1 + 1, 2, none⟩ = false := frozen_of_row _ _ 2 _ _ HZ.out
    have z3 := cell_of_row w8 (w.heap.size + 1 + 1) 3 _ _ _ HZ.out
    have zz3 : w8.frozen? ⟨w.heap.size + 1 + 1, 3, none⟩ = false := frozen_of_row _ _ 3 _ _ HZ.out
    have HS := Lib.hid (set4_at HZ.out (.int .i64 0) (.string ⟨#[]⟩) (.bool false) (.slice none 0 0))
    have HBF := Lib.hid (set4_below hB8 (g := w.heap.size + 1 + 1) (by omega) (.int .i64 0) (.string ⟨#[]⟩) (.bool false) (.slice none 0 0))
    unfold set4 at HS HBF
    go_wp2
    refine bodyPost_ret (results_cell2 rfl _ _ (w.heap.size + 1 + 1) _ _ _ _ rfl HS.out Try.underlying25 rfl (by kernel_rfl)) rfl ?_
    exact pasteOf_no HF.out HBF.out
  obtain ⟨t, rfl⟩ : ∃ t, l = [t] := List.length_eq_one_iff.1 hl1
  clear hl1
  have HF := Lib.hid (paste_yes HVV.out.1 HVV.out.2 HTR.out)
  obtain ⟨bt, ot, ct, ath, cth, rfl, hc1, hcm, hbt, hmem, t0, t1, t2, t3, okk, oks⟩ := open_head RT
  have hbt2 := (OT.2 bt hmem).1
  unfold maxLen at hcm
  clear RT HTR OT hmem
  have hpa := hid_parts (tok_hidOk HVV.out.1)
  have hpb := hid_parts (tok_hidOk HVV.out.2)
  have HL := Lib.hid (fun (U : World) (hU : Below w8.heap.size w8 U) => impl_namesOfBoth _ _ a.hidden b.hidden _ _ U (by omega) (by omega) hpb.2.2 (tok_hid (sTok.below HRA.out hU)) (tok_hid (sTok.below HRB.out hU)))
  clear hpa hpb
  have c0 := cell_of_row w8 (w.heap.size) 0 _ _ _ HA.out
  have c1 := cell_of_row w8 (w.heap.size) 1 _ _ _ HA.out
  have c2 := cell_of_row w8 (w.heap.size) 2 _ _ _ HA.out
  have c3 := cell_of_row w8 (w.heap.size) 3 _ _ _ HA.out
  have d0 := cell_of_row w8 (w.heap.size + 1) 0 _ _ _ HB.out
  have d1 := cell_of_row w8 (w.heap.size + 1) 1 _ _ _ HB.out
  have d2 := cell_of_row w8 (w.heap.size + 1) 2 _ _ _ HB.out
  have d3 := cell_of_row w8 (w.heap.size + 1) 3 _ _ _ HB.out
  have hzz : w.heap.size + 1 + 1 < w8.heap.size := mlt HZ.out
  have hal0 := alloc_below' w8 (.cells #[.int .i64 t.kind, .string t.text, .bool t.spaced, .slice ath t.hidden.length cth] 25)
  have c2_0 : (w8.alloc (.cells #[.int .i64 t.kind, .string t.text, .bool t.spaced, .slice ath t.hidden.length cth] 25)).cell? ⟨w.heap.size, 2, none⟩ = some (.bool a.spaced) := (hal0.cell (by show _ < w8.heap.size; simp only; omega)).trans c2
  have c3_0 : (w8.alloc (.cells #[.int .i64 t.kind, .string t.text, .bool t.spaced, .slice ath t.hidden.length cth] 25)).cell? ⟨w.heap.size, 3, none⟩ = some (ha) := (hal0.cell (by show _ < w8.heap.size; simp only; omega)).trans c3
  have d3_0 : (w8.alloc (.cells #[.int .i64 t.kind, .string t.text, .bool t.spaced, .slice ath t.hidden.length cth] 25)).cell? ⟨w.heap.size + 1, 3, none⟩ = some (hb) := (hal0.cell (by show _ < w8.heap.size; simp only; omega)).trans d3
  have hal1 := alloc_below' w8 (.cells #[.int .i64 t.kind, .string t.text, .bool a.spaced, .slice ath t.hidden.length cth] 25)
  have c2_1 : (w8.alloc (.cells #[.int .i64 t.kind, .string t.text, .bool a.spaced, .slice ath t.hidden.length cth] 25)).cell? ⟨w.heap.size, 2, none⟩ = some (.bool a.spaced) := (hal1.cell (by show _ < w8.heap.size; simp only; omega)).trans c2
  have c3_1 : (w8.alloc (.cells #[.int .i64 t.kind, .string t.text, .bool a.spaced, .slice ath t.hidden.length cth] 25)).cell? ⟨w.heap.size, 3, none⟩ = some (ha) := (hal1.cell (by show _ < w8.heap.size; simp only; omega)).trans c3
  have d3_1 : (w8.alloc (.cells #[.int .i64 t.kind, .string t.text, .bool a.spaced, .slice ath t.hidden.length cth] 25)).cell? ⟨w.heap.size + 1, 3, none⟩ = some (hb) := (hal1.cell (by show _ < w8.heap.size; simp only; omega)).trans d3
  clear c0 c1 c2 c3 d0 d1 d2 d3
  have HX := Lib.hid (show (w8.alloc (.cells #[.int .i64 t.kind, .string t.text, .bool a.spaced, .slice ath t.hidden.length cth] 25)).heap[w8.heap.size]? = some (.cells #[.int .i64 t.kind, .string t.text, .bool a.spaced, .slice ath t.hidden.length cth] 25 (0, 0)) by show (w8.heap.push _)[_]? = _; simp)
  go_wp2_with fail
  refine (HL.out _ hal1).mono ?_
  rintro e w9 ⟨vv, fv, rfl, RV, OV, b9⟩
  obtain ⟨av, cv, rfl, -⟩ := open_strs RV
  clear t0 t1 t2 t3 HL c2_0 c3_0 d3_0 c2_1 c3_1 d3_1
  have hbk := hB8.trans ((hal1.trans (b9.mono hal1.size)).mono hB8.size)
  have hox : w8.heap.size ∉ fv := fun hx => by have h1 := (OV.2 _ hx).1; have h2 : (w8.alloc (.cells #[.int .i64 t.kind, .string t.text, .bool a.spaced, .slice ath t.hidden.length cth] 25)).heap.size = w8.heap.size + 1 := (by simp); omega
  have hoz : w.heap.size + 1 + 1 ∉ fv := fun hx => by have h1 := (OV.2 _ hx).1; have h2 : (w8.alloc (.cells #[.int .i64 t.kind, .string t.text, .bool a.spaced, .slice ath t.hidden.length cth] 25)).heap.size = w8.heap.size + 1 := (by simp); omega
  replace HX := Lib.hid (mbox HX.out b9)
  replace HZ := Lib.hid (mbox HZ.out (hal1.trans (b9.mono hal1.size)))
  have x0 := cell_of_row _ (w8.heap.size) 0 _ _ _ HX.out
  have xz0 : w9.frozen? ⟨w8.heap.size, 0, none⟩ = false := frozen_of_row _ _ 0 _ _ HX.out
  have x1 := cell_of_row _ (w8.heap.size) 1 _ _ _ HX.out
  have xz1 : w9.frozen? ⟨w8.heap.size, 1, none⟩ = false := frozen_of_row _ _ 1 _ _ HX.out
  have x2 := cell_of_row _ (w8.heap.size) 2 _ _ _ HX.out
  have xz2 : w9.frozen? ⟨w8.heap.size, 2, none⟩ = false := frozen_of_row _ _ 2 _ _ HX.out
  have x3 := cell_of_row _ (w8.heap.size) 3 _ _ _ HX.out
  have xz3 : w9.frozen? ⟨w8.heap.size, 3, none⟩ = false := frozen_of_row _ _ 3 _ _ HX.out
  have hb10 := hbk.setCell (p := ⟨w8.heap.size, 3, none⟩) (by show w.heap.size ≤ w8.heap.size; omega) (.slice av (both a.hidden b.hidden).length cv)
  have HR := Lib.hid ((sSlice sStr).setB RV hox 3 (.slice av (both a.hidden b.hidden).length cv))
  have HO := Lib.hid (OV.setCell ⟨w8.heap.size, 3, none⟩ (.slice av (both a.hidden b.hidden).length cv))
  replace HX := Lib.hid (blk_set HX.out 3 (.slice av (both a.hidden b.hidden).length cv))
  replace HZ := Lib.hid (blk_other HZ.out (by omega : w.heap.size + 1 + 1 ≠ w8.heap.size) 3 (.slice av (both a.hidden b.hidden).length cv))
  go_upto_region 9 with fail
  clear x0 x1 x2 x3 xz0 xz1 xz2 xz3 RV OV b9 hbk
  generalize w9.setCell ⟨w8.heap.size, 3, none⟩ (.slice av (both a.hidden b.hidden).length cv) = w9' at *
  have x0 := cell_of_row _ (w8.heap.size) 0 _ _ _ HX.out
  have x1 := cell_of_row _ (w8.heap.size) 1 _ _ _ HX.out
  have x2 := cell_of_row _ (w8.heap.size) 2 _ _ _ HX.out
  have x3 := cell_of_row _ (w8.heap.size) 3 _ _ _ HX.out
  have z0 := cell_of_row w9' (w.heap.size + 1 + 1) 0 _ _ _ HZ.out
  have zz0 : w9'.frozen? ⟨w.heap.size + 1 + 1, 0, none⟩ = false := frozen_of_row _ _ 0 _ _ HZ.out
  have z1 := cell_of_row w9' (w.heap.size + 1 + 1) 1 _ _ _ HZ.out
  have zz1 : w9'.frozen? ⟨w.heap.size + 1 + 1, 1, none⟩ = false := frozen_of_row _ _ 1 _ _ HZ.out
  have z2 := cell_of_row w9' (w.heap.size + 1 + 1) 2 _ _ _ HZ.out
  have zz2 : w9'.frozen? ⟨w.heap.size + 1 + 1, 2, none⟩ = false := frozen_of_row _ _ 2 _ _ HZ.out
  have z3 := cell_of_row w9' (w.heap.size + 1 + 1) 3 _ _ _ HZ.out
  have zz3 : w9'.frozen? ⟨w.heap.size + 1 + 1, 3, none⟩ = false := frozen_of_row _ _ 3 _ _ HZ.out
  have HS := Lib.hid (set4_at HZ.out (.int .i64 t.kind) (.string t.text) (.bool a.spaced) (.slice av (both a.hidden b.hidden).length cv))
  have HBF := Lib.hid (set4_below hb10 (g := w.heap.size + 1 + 1) (by omega) (.int .i64 t.kind) (.string t.text) (.bool a.spaced) (.slice av (both a.hidden b.hidden).length cv))
  have HRF := Lib.hid ((sSlice sStr).set4R HR.out hoz (.int .i64 t.kind) (.string t.text) (.bool a.spaced) (.slice av (both a.hidden b.hidden).length cv))
  have HOF := Lib.hid (Own.set4 (g := w.heap.size + 1 + 1) (HO.out.lower (show w.heap.size ≤ (w8.alloc (.cells #[.int .i64 t.kind, .string t.text, .bool a.spaced, .slice ath t.hidden.length cth] 25)).heap.size by simp; omega)) (.int .i64 t.kind) (.string t.text) (.bool a.spaced) (.slice av (both a.hidden b.hidden).length cv))
  unfold set4 at HS HBF HRF HOF
  go_wp2
  refine bodyPost_ret (results_cell2 rfl _ _ (w.heap.size + 1 + 1) _ _ _ _ rfl HS.out Try.underlying25 rfl (by kernel_rfl)) rfl ?_
  exact pasteOf_yes HF.out okk oks HRF.out HOF.out HBF.out

end Go.Proofs.Ytbkmapaieillmaa

/- The drawing of chapter 9. (Made by gen_drawpst.py.) -/
namespace Go.Proofs.Ytbkmapaieillmaa
open Go.RowKit

/-- Two tokens are drawn. -/
def DrawnTT (w : World) (e : Ending) (w' : World) : Prop :=
  ∃ (x y : Tok) (ao ao' : Option Addr) (c c' : Nat) (fp fp' : List Nat), e = .returned (.tuple #[.agg #[.int .i64 x.kind, .string x.text, .bool x.spaced, .slice ao x.hidden.length c], .agg #[.int .i64 y.kind, .string y.text, .bool y.spaced, .slice ao' y.hidden.length c']]) ∧
    sTok.R w' [.int .i64 x.kind, .string x.text, .bool x.spaced, .slice ao x.hidden.length c] x fp ∧ sTok.R w' [.int .i64 y.kind, .string y.text, .bool y.spaced, .slice ao' y.hidden.length c'] y fp' ∧ okTok x ∧ okTok y ∧ Below w.heap.size w w'
theorem len_of {w : World} {k : Int} {s : ByteArray} {p : Bool} {ao : Option Addr} {m c : Nat} {x : Tok} {fp : List Nat} (H : sTok.R w [.int .i64 k, .string s, .bool p, .slice ao m c] x fp) : m = x.hidden.length := by
  obtain ⟨a, cap, e, -⟩ := open_strs (tok_hid H)
  simp only [Value.slice.injEq] at e
  exact e.2.1

set_option maxHeartbeats 16000000 in
set_option maxRecDepth 100000 in
theorem DrawPasteTokens (v : Value) (l : List UInt8) (fp : List Nat) (w : World) (H : (sSlice sByte).R w [v] l fp) :
    Calls Try.prog 7 #[v] w (DrawnTT w) := by
  have HZ := Lib.hid (alloc2_blk w #[.int .i64 0, .string ⟨#[]⟩, .bool false, .slice none 0 0] #[.int .i64 0, .string ⟨#[]⟩, .bool false, .slice none 0 0] 25 25)
  have b0 := (alloc_below' w (.cells #[.int .i64 0, .string ⟨#[]⟩, .bool false, .slice none 0 0] 25)).trans ((alloc_below' (w.alloc (.cells #[.int .i64 0, .string ⟨#[]⟩, .bool false, .slice none 0 0] 25)) (.cells #[.int .i64 0, .string ⟨#[]⟩, .bool false, .slice none 0 0] 25)).mono (alloc_below' w (.cells #[.int .i64 0, .string ⟨#[]⟩, .bool false, .slice none 0 0] 25)).size)
  have h0 := (sSlice sByte).below H b0
  have hs0 : ((w.alloc (.cells #[.int .i64 0, .string ⟨#[]⟩, .bool false, .slice none 0 0] 25)).alloc (.cells #[.int .i64 0, .string ⟨#[]⟩, .bool false, .slice none 0 0] 25)).heap.size = w.heap.size + 2 := by show ((w.heap.push _).push _).size = _; simp
  go_enter Try.func7, Try.ntmps7
  go_wp2_with fail
  refine (l20Open _ l fp _ h0).mono ?_
  rintro e w1 ⟨rb, rfl, hrb, hR, hB⟩
  have HZ1 := Lib.hid (And.intro (mbox HZ.out.1 hB) (mbox HZ.out.2 hB))
  have hB1 := b0.trans (hB.mono b0.size)
  have hrb' : w.heap.size + 1 < rb := by omega
  clear hs0 b0 h0 hB HZ hrb H
  go_wp2_with fail
  refine (l20Token rb 0 _ _ hR (by omega) (by omega) (by omega)).mono ?_
  rintro e w2 ⟨k, s, sp, ao, m, c, la, fa, q, rfl, hT, hok, hlo, -, hq, hR2, hK2⟩
  obtain rfl := len_of hT
  obtain ⟨x, hx⟩ : ∃ x : Tok, x = ⟨k, s, sp, la⟩ := ⟨_, rfl⟩
  have ek : k = x.kind := by rw [hx]
  have es : s = x.text := by rw [hx]
  have ep : sp = x.spaced := by rw [hx]
  have el : la = x.hidden := by rw [hx]
  rw [← hx] at hT hok
  clear hx
  subst ek es ep el
  have HZ2 := Lib.hid (And.intro (blkKept HZ1.out.1 hK2 (by omega)) (blkKept HZ1.out.2 hK2 (by omega)))
  have hB2 := kept_below hB1 hK2 (by omega) hB1.size
  have hs1 := hB1.size
  have hw1 := hR.lt
  have hlo2 : ∀ b ∈ fa, rb < b := fun b hb => by have := hlo b hb; omega
  have HOK := Lib.hid hok
  have hb3 := alloc_below' w2 (.cells #[.int .i64 x.kind, .string x.text, .bool x.spaced, .slice ao x.hidden.length c] 25)
  have HA := Lib.hid (heap_alloc_new w2 (.cells #[.int .i64 x.kind, .string x.text, .bool x.spaced, .slice ao x.hidden.length c] 25))
  have HZ3 := Lib.hid (And.intro (mbox HZ2.out.1 hb3) (mbox HZ2.out.2 hb3))
  have hB3 := hB2.trans (hb3.mono hB2.size)
  have hR3 := hR2.grow hb3
  have hT3 := sTok.below hT hb3
  have hw2 := hR2.lt
  have hgx : w2.heap.size < (w2.alloc (.cells #[.int .i64 x.kind, .string x.text, .bool x.spaced, .slice ao x.hidden.length c] 25)).heap.size := mlt HA.out
  have hlx : ∀ b ∈ fa, b < w2.heap.size := fun b hb => sTok.lt hT b hb
  clear hlo hok hT hR2 hK2 HZ2 HZ1 hB2 hR hb3
  go_upto_region 3 with fail
  generalize (w2.alloc (.cells #[.int .i64 x.kind, .string x.text, .bool x.spaced, .slice ao x.hidden.length c] 25)) = W3 at *
  go_wp2_with fail
  refine (l20Token rb q _ _ hR3 (by omega) (by omega) (by omega)).mono ?_
  rintro e w4 ⟨k, s, sp, ao2, m, c2, lb, fb, q2, rfl, hU, hok2, hlo3, -, hq2, hR4, hK4⟩
  obtain rfl := len_of hU
  obtain ⟨y, hy⟩ : ∃ y : Tok, y = ⟨k, s, sp, lb⟩ := ⟨_, rfl⟩
  have ek : k = y.kind := by rw [hy]
  have es : s = y.text := by rw [hy]
  have ep : sp = y.spaced := by rw [hy]
  have el : lb = y.hidden := by rw [hy]
  rw [← hy] at hU hok2
  clear hy
  subst ek es ep el
  have HZ4 := Lib.hid (And.intro (blkKept HZ3.out.1 hK4 (by omega)) (blkKept HZ3.out.2 hK4 (by omega)))
  have HA4 := Lib.hid (blkKept HA.out hK4 (by omega))
  have hB4 := kept_below hB3 hK4 (by omega) hB3.size
  have hT4 := sTok.kept hT3 (fun b hb => by simp; have := hlo2 b hb; omega) hK4
  have hs3 := hK4.size
  have HOK2 := Lib.hid hok2
  have hb5 := alloc_below' w4 (.cells #[.int .i64 y.kind, .string y.text, .bool y.spaced, .slice ao2 y.hidden.length c2] 25)
  have HB5 := Lib.hid (heap_alloc_new w4 (.cells #[.int .i64 y.kind, .string y.text, .bool y.spaced, .slice ao2 y.hidden.length c2] 25))
  have HA5 := Lib.hid (mbox HA4.out hb5)
  have HZ5 := Lib.hid (And.intro (mbox HZ4.out.1 hb5) (mbox HZ4.out.2 hb5))
  have hB5 := hB4.trans (hb5.mono hB4.size)
  have hR5 := hR4.grow hb5
  have hT5 := sTok.below hT4 hb5
  have hU5 := sTok.below hU hb5
  have hgy : w4.heap.size < (w4.alloc (.cells #[.int .i64 y.kind, .string y.text, .bool y.spaced, .slice ao2 y.hidden.length c2] 25)).heap.size := mlt HB5.out
  have hw3 := hR3.lt
  have hlo4 : ∀ b ∈ fb, w2.heap.size < b ∧ b < w4.heap.size := fun b hb => ⟨by have := hlo3 b hb; omega, sTok.lt hU b hb⟩
  clear hlo3 hok2 hU hR4 hK4 HZ4 HZ3 hB3 hB4 hT4 hT3 hR3 hb5 HA HA4
  go_upto_region 4 with fail
  generalize (w4.alloc (.cells #[.int .i64 y.kind, .string y.text, .bool y.spaced, .slice ao2 y.hidden.length c2] 25)) = W5 at *
  go_wp2_with fail
  refine (pick rb q2 _ _ hR5 (by omega) (by omega) (by omega)).mono ?_
  rintro e w6 ⟨r, rfl, h60, h61, hR6, hK6⟩
  have HZ6 := Lib.hid (And.intro (blkKept HZ5.out.1 hK6 (by omega)) (blkKept HZ5.out.2 hK6 (by omega)))
  have HA6 := Lib.hid (blkKept HA5.out hK6 (by omega))
  have HB6 := Lib.hid (blkKept HB5.out hK6 (by omega))
  have hB6 := kept_below hB5 hK6 (by omega) hB5.size
  have hT6 := sTok.kept hT5 (fun b hb => by simp; have := hlo2 b hb; omega) hK6
  have hU6 := sTok.kept hU5 (fun b hb => by simp; have := hlo4 b hb; omega) hK6
  have hs5 := hK6.size
  have HNI : Hid (w.heap.size ∉ fa ∧ w.heap.size + 1 ∉ fa ∧ w.heap.size ∉ fb ∧ w.heap.size + 1 ∉ fb) := ⟨fun hx => by have := hlo2 _ hx; omega, fun hx => by have := hlo2 _ hx; omega, fun hx => by have := hlo4 _ hx; omega, fun hx => by have := hlo4 _ hx; omega⟩
  clear hR6 hK6 HZ5 HA5 HB5 hB5 hT5 hU5 hR5
  by_cases hr : r = 0
  · subst hr
    have hrr : ((0 : Int) == 0) = true := rfl
    go_wp2_with fail
    refine wp_region_noPanic ?_
    refine wp_region_held_drew (S := fun w' => w'.heap[w2.heap.size]? = some (.cells #[.int .i64 x.kind, .string x.text, .bool x.spaced, .slice ao x.hidden.length c] 25 (0, 0)) ∧ w'.heap[w4.heap.size]? = some (.cells #[.int .i64 y.kind, .string y.text, .bool y.spaced, .slice ao2 y.hidden.length c2] 25 (0, 0))) (by kernel_rfl) (by exact ⟨HA6.out, HB6.out⟩) (fun hHeld => ?_)
    have hd : Below w6.heap.size w6 w6.drew := belowN (Below.refl _ _) 1
    have HZq := Lib.hid (And.intro (mbox HZ6.out.1 hd) (mbox HZ6.out.2 hd))
    have HMq := Lib.hid (And.intro (mbox HA6.out hd) (mbox HB6.out hd))
    have HTq := Lib.hid (sTok.below hT6 hd)
    have HUq := Lib.hid (sTok.below hU6 hd)
    have HBq := Lib.hid (hB6.trans (hd.mono hB6.size))
    clear HZ6 HA6 HB6 hT6 hU6 hB6 hd
    generalize w6.drew = wq at *
    refine takeH2 0 16 (v := ?_) rfl rfl (by kernel_rfl) (by kernel_rfl) (by kernel_rfl) (fun _ _ _ h => h) (by rfl) (by assumption) ?_ ?_
    rotate_left
    · intro w hSw; go_simp; (first | done | with_reducible rfl | rfl)
    try simp only [Act.put, List.setIfInBounds_toArray, List.set_cons_zero, List.set_cons_succ]
    refine takeH2 1 17 (v := ?_) rfl rfl (by kernel_rfl) (by kernel_rfl) (by kernel_rfl) (fun _ _ _ h => h) (by rfl) (by assumption) ?_ ?_
    rotate_left
    · intro w hSw; obtain ⟨sa, sb⟩ := hSw; have s0 := cell_of_row _ _ 0 _ _ _ sa; have s1 := cell_of_row _ _ 1 _ _ _ sa; have s2 := cell_of_row _ _ 2 _ _ _ sa; have s3 := cell_of_row _ _ 3 _ _ _ sa; go_simp; (first | done | with_reducible rfl | rfl)
    try simp only [Act.put, List.setIfInBounds_toArray, List.set_cons_zero, List.set_cons_succ]
    refine takeH2 2 18 (v := ?_) rfl rfl (by kernel_rfl) (by kernel_rfl) (by kernel_rfl) (fun _ _ _ h => h) (by rfl) (by assumption) ?_ ?_
    rotate_left
    · intro w hSw; go_simp; (first | done | with_reducible rfl | rfl)
    try simp only [Act.put, List.setIfInBounds_toArray, List.set_cons_zero, List.set_cons_succ]
    refine takeH2 3 19 (v := ?_) rfl rfl (by kernel_rfl) (by kernel_rfl) (by kernel_rfl) (fun _ _ _ h => h) (by rfl) (by assumption) ?_ ?_
    rotate_left
    · intro w hSw; go_simp; (first | done | with_reducible rfl | rfl)
    try simp only [Act.put, List.setIfInBounds_toArray, List.set_cons_zero, List.set_cons_succ]
    refine takeH2 4 20 (v := ?_) rfl rfl (by kernel_rfl) (by kernel_rfl) (by kernel_rfl) (fun _ _ _ h => h) (by rfl) (by assumption) ?_ ?_
    rotate_left
    · intro w hSw; obtain ⟨sa, sb⟩ := hSw; have s0 := cell_of_row _ _ 0 _ _ _ sb; have s1 := cell_of_row _ _ 1 _ _ _ sb; have s2 := cell_of_row _ _ 2 _ _ _ sb; have s3 := cell_of_row _ _ 3 _ _ _ sb; go_simp; (first | done | with_reducible rfl | rfl)
    try simp only [Act.put, List.setIfInBounds_toArray, List.set_cons_zero, List.set_cons_succ]
    refine takeH2 5 21 (v := ?_) rfl rfl (by kernel_rfl) (by kernel_rfl) (by kernel_rfl) (fun _ _ _ h => h) (by rfl) (by assumption) ?_ ?_
    rotate_left
    · intro w hSw; go_simp; (first | done | with_reducible rfl | rfl)
    try simp only [Act.put, List.setIfInBounds_toArray, List.set_cons_zero, List.set_cons_succ]
    have HTF := Lib.hid (show sTok.R wq [.int .i64 1, .string ⟨#[97]⟩, .bool false, .slice ao x.hidden.length c] ⟨1, ⟨#[97]⟩, false, x.hidden⟩ fa from ⟨_, rfl, (show okInt 1 from ⟨by decide, by decide⟩), (show (1 : Nat) ≤ maxLen by unfold maxLen; omega), tok_hid (x := x) HTq.out⟩)
    have HUF := Lib.hid (show sTok.R wq [.int .i64 2, .string ⟨#[49]⟩, .bool false, .slice ao2 y.hidden.length c2] ⟨2, ⟨#[49]⟩, false, y.hidden⟩ fb from ⟨_, rfl, (show okInt 2 from ⟨by decide, by decide⟩), (show (1 : Nat) ≤ maxLen by unfold maxLen; omega), tok_hid (x := y) HUq.out⟩)
    refine wpAnyH_ready (rs := [6]) (by kernel_rfl) (by simp) ?_
    refine AllReadyH.cons rfl (fun K hK => ?_) AllReadyH.nil
    have zc0 := cell_of_row (wq) (w.heap.size) 0 _ _ _ HZq.out.1
    have zf0 : (wq).frozen? ⟨w.heap.size, 0, none⟩ = false := frozen_of_row _ _ 0 _ _ HZq.out.1
    have zc1 := cell_of_row (wq) (w.heap.size) 1 _ _ _ HZq.out.1
    have zf1 : (wq).frozen? ⟨w.heap.size, 1, none⟩ = false := frozen_of_row _ _ 1 _ _ HZq.out.1
    have zc2 := cell_of_row (wq) (w.heap.size) 2 _ _ _ HZq.out.1
    have zf2 : (wq).frozen? ⟨w.heap.size, 2, none⟩ = false := frozen_of_row _ _ 2 _ _ HZq.out.1
    have zc3 := cell_of_row (wq) (w.heap.size) 3 _ _ _ HZq.out.1
    have zf3 : (wq).frozen? ⟨w.heap.size, 3, none⟩ = false := frozen_of_row _ _ 3 _ _ HZq.out.1
    go_simp
    change K _ (set4 wq (w.heap.size) (.int .i64 1) (.string ⟨#[97]⟩) (.bool false) (.slice ao x.hidden.length c))
    refine hK.out _ _ ⟨(set4_far (by omega) _ _ _ _).trans HMq.out.1, (set4_far (by omega) _ _ _ _).trans HMq.out.2⟩ (fun hHeld => ?_)
    clear hK K
    try simp only [Act.put, List.setIfInBounds_toArray, List.set_cons_zero, List.set_cons_succ]
    have yc0 := cell_of_row (set4 wq (w.heap.size) (.int .i64 1) (.string ⟨#[97]⟩) (.bool false) (.slice ao x.hidden.length c)) (w.heap.size + 1) 0 _ _ _ ((set4_far (by omega) _ _ _ _).trans HZq.out.2)
    have yf0 : (set4 wq (w.heap.size) (.int .i64 1) (.string ⟨#[97]⟩) (.bool false) (.slice ao x.hidden.length c)).frozen? ⟨w.heap.size + 1, 0, none⟩ = false := frozen_of_row _ _ 0 _ _ ((set4_far (by omega) _ _ _ _).trans HZq.out.2)
    have yc1 := cell_of_row (set4 wq (w.heap.size) (.int .i64 1) (.string ⟨#[97]⟩) (.bool false) (.slice ao x.hidden.length c)) (w.heap.size + 1) 1 _ _ _ ((set4_far (by omega) _ _ _ _).trans HZq.out.2)
    have yf1 : (set4 wq (w.heap.size) (.int .i64 1) (.string ⟨#[97]⟩) (.bool false) (.slice ao x.hidden.length c)).frozen? ⟨w.heap.size + 1, 1, none⟩ = false := frozen_of_row _ _ 1 _ _ ((set4_far (by omega) _ _ _ _).trans HZq.out.2)
    have yc2 := cell_of_row (set4 wq (w.heap.size) (.int .i64 1) (.string ⟨#[97]⟩) (.bool false) (.slice ao x.hidden.length c)) (w.heap.size + 1) 2 _ _ _ ((set4_far (by omega) _ _ _ _).trans HZq.out.2)
    have yf2 : (set4 wq (w.heap.size) (.int .i64 1) (.string ⟨#[97]⟩) (.bool false) (.slice ao x.hidden.length c)).frozen? ⟨w.heap.size + 1, 2, none⟩ = false := frozen_of_row _ _ 2 _ _ ((set4_far (by omega) _ _ _ _).trans HZq.out.2)
    have yc3 := cell_of_row (set4 wq (w.heap.size) (.int .i64 1) (.string ⟨#[97]⟩) (.bool false) (.slice ao x.hidden.length c)) (w.heap.size + 1) 3 _ _ _ ((set4_far (by omega) _ _ _ _).trans HZq.out.2)
    have yf3 : (set4 wq (w.heap.size) (.int .i64 1) (.string ⟨#[97]⟩) (.bool false) (.slice ao x.hidden.length c)).frozen? ⟨w.heap.size + 1, 3, none⟩ = false := frozen_of_row _ _ 3 _ _ ((set4_far (by omega) _ _ _ _).trans HZq.out.2)
    refine wpAnyH_ready (rs := [7]) (by kernel_rfl) (by simp) ?_
    refine AllReadyH.cons rfl (fun K hK => ?_) AllReadyH.nil
    go_simp
    change K _ (set4 (set4 wq (w.heap.size) (.int .i64 1) (.string ⟨#[97]⟩) (.bool false) (.slice ao x.hidden.length c)) (w.heap.size + 1) (.int .i64 2) (.string ⟨#[49]⟩) (.bool false) (.slice ao2 y.hidden.length c2))
    refine hK.out _ _ ⟨(set4_far (by omega) _ _ _ _).trans ((set4_far (by omega) _ _ _ _).trans HMq.out.1), (set4_far (by omega) _ _ _ _).trans ((set4_far (by omega) _ _ _ _).trans HMq.out.2)⟩ (fun hHeld => ?_)
    clear hK K
    try simp only [Act.put, List.setIfInBounds_toArray, List.set_cons_zero, List.set_cons_succ]
    have HF := Lib.hid (two_abS HZq.out.1 HZq.out.2 (by omega) HTF.out HUF.out ⟨HNI.out.1, HNI.out.2.1, HNI.out.2.2.1, HNI.out.2.2.2⟩ HBq.out ⟨Nat.le_refl _, by omega⟩ (.int .i64 1) (.string ⟨#[97]⟩) (.bool false) (.slice ao x.hidden.length c) (.int .i64 2) (.string ⟨#[49]⟩) (.bool false) (.slice ao2 y.hidden.length c2))
    refine wpAnyH_done (by kernel_rfl) ?_ _
    refine NoPanic.normal ?_
    clear hHeld
    go_wp2
    refine bodyPost_ret (results_two rfl _ _ w.heap.size (w.heap.size + 1) _ _ _ _ _ _ _ rfl rfl HF.out.1 HF.out.2.1 Try.underlying25 rfl (by kernel_rfl) (by kernel_rfl)) rfl ?_
    exact ⟨⟨1, ⟨#[97]⟩, false, x.hidden⟩, ⟨2, ⟨#[49]⟩, false, y.hidden⟩, ao, ao2, c, c2, fa, fb, rfl, HF.out.2.2.1, HF.out.2.2.2.1, ⟨by show (1 : Nat) ≤ 1000; omega, by show (0 : Int) ≤ 1; omega, by show (1 : Int) ≤ 4; omega, HOK.out.2.2.2⟩, ⟨by show (1 : Nat) ≤ 1000; omega, by show (0 : Int) ≤ 2; omega, by show (2 : Int) ≤ 4; omega, HOK2.out.2.2.2⟩, HF.out.2.2.2.2⟩
  · have hrr : (r == 0) = false := by simp; exact hr
    go_wp2_with fail
    refine wp_region_noPanic ?_
    refine wp_region_held_drew (S := fun w' => w'.heap[w2.heap.size]? = some (.cells #[.int .i64 x.kind, .string x.text, .bool x.spaced, .slice ao x.hidden.length c] 25 (0, 0)) ∧ w'.heap[w4.heap.size]? = some (.cells #[.int .i64 y.kind, .string y.text, .bool y.spaced, .slice ao2 y.hidden.length c2] 25 (0, 0))) (by kernel_rfl) (by exact ⟨HA6.out, HB6.out⟩) (fun hHeld => ?_)
    have hd : Below w6.heap.size w6 w6.drew := belowN (Below.refl _ _) 1
    have HZq := Lib.hid (And.intro (mbox HZ6.out.1 hd) (mbox HZ6.out.2 hd))
    have HMq := Lib.hid (And.intro (mbox HA6.out hd) (mbox HB6.out hd))
    have HTq := Lib.hid (sTok.below hT6 hd)
    have HUq := Lib.hid (sTok.below hU6 hd)
    have HBq := Lib.hid (hB6.trans (hd.mono hB6.size))
    clear HZ6 HA6 HB6 hT6 hU6 hB6 hd
    generalize w6.drew = wq at *
    refine takeH2 0 22 (v := ?_) rfl rfl (by kernel_rfl) (by kernel_rfl) (by kernel_rfl) (fun _ _ _ h => h) (by rfl) (by assumption) ?_ ?_
    rotate_left
    · intro w hSw; obtain ⟨sa, sb⟩ := hSw; have s0 := cell_of_row _ _ 0 _ _ _ sa; have s1 := cell_of_row _ _ 1 _ _ _ sa; have s2 := cell_of_row _ _ 2 _ _ _ sa; have s3 := cell_of_row _ _ 3 _ _ _ sa; go_simp; (first | done | with_reducible rfl | rfl)
    try simp only [Act.put, List.setIfInBounds_toArray, List.set_cons_zero, List.set_cons_succ]
    refine takeH2 1 23 (v := ?_) rfl rfl (by kernel_rfl) (by kernel_rfl) (by kernel_rfl) (fun _ _ _ h => h) (by rfl) (by assumption) ?_ ?_
    rotate_left
    · intro w hSw; obtain ⟨sa, sb⟩ := hSw; have s0 := cell_of_row _ _ 0 _ _ _ sb; have s1 := cell_of_row _ _ 1 _ _ _ sb; have s2 := cell_of_row _ _ 2 _ _ _ sb; have s3 := cell_of_row _ _ 3 _ _ _ sb; go_simp; (first | done | with_reducible rfl | rfl)
    try simp only [Act.put, List.setIfInBounds_toArray, List.set_cons_zero, List.set_cons_succ]
    have HTF := Lib.hid (HTq.out)
    have HUF := Lib.hid (HUq.out)
    refine wpAnyH_ready (rs := [2]) (by kernel_rfl) (by simp) ?_
    refine AllReadyH.cons rfl (fun K hK => ?_) AllReadyH.nil
    have zc0 := cell_of_row (wq) (w.heap.size) 0 _ _ _ HZq.out.1
    have zf0 : (wq).frozen? ⟨w.heap.size, 0, none⟩ = false := frozen_of_row _ _ 0 _ _ HZq.out.1
    have zc1 := cell_of_row (wq) (w.heap.size) 1 _ _ _ HZq.out.1
    have zf1 : (wq).frozen? ⟨w.heap.size, 1, none⟩ = false := frozen_of_row _ _ 1 _ _ HZq.out.1
    have zc2 := cell_of_row (wq) (w.heap.size) 2 _ _ _ HZq.out.1
    have zf2 : (wq).frozen? ⟨w.heap.size, 2, none⟩ = false := frozen_of_row _ _ 2 _ _ HZq.out.1
    have zc3 := cell_of_row (wq) (w.heap.size) 3 _ _ _ HZq.out.1
    have zf3 : (wq).frozen? ⟨w.heap.size, 3, none⟩ = false := frozen_of_row _ _ 3 _ _ HZq.out.1
    go_simp
    change K _ (set4 wq (w.heap.size) (.int .i64 x.kind) (.string x.text) (.bool x.spaced) (.slice ao x.hidden.length c))
    refine hK.out _ _ ⟨(set4_far (by omega) _ _ _ _).trans HMq.out.1, (set4_far (by omega) _ _ _ _).trans HMq.out.2⟩ (fun hHeld => ?_)
    clear hK K
    try simp only [Act.put, List.setIfInBounds_toArray, List.set_cons_zero, List.set_cons_succ]
    have yc0 := cell_of_row (set4 wq (w.heap.size) (.int .i64 x.kind) (.string x.text) (.bool x.spaced) (.slice ao x.hidden.length c)) (w.heap.size + 1) 0 _ _ _ ((set4_far (by omega) _ _ _ _).trans HZq.out.2)
    have yf0 : (set4 wq (w.heap.size) (.int .i64 x.kind) (.string x.text) (.bool x.spaced) (.slice ao x.hidden.length c)).frozen? ⟨w.heap.size + 1, 0, none⟩ = false := frozen_of_row _ _ 0 _ _ ((set4_far (by omega) _ _ _ _).trans HZq.out.2)
    have yc1 := cell_of_row (set4 wq (w.heap.size) (.int .i64 x.kind) (.string x.text) (.bool x.spaced) (.slice ao x.hidden.length c)) (w.heap.size + 1) 1 _ _ _ ((set4_far (by omega) _ _ _ _).trans HZq.out.2)
    have yf1 : (set4 wq (w.heap.size) (.int .i64 x.kind) (.string x.text) (.bool x.spaced) (.slice ao x.hidden.length c)).frozen? ⟨w.heap.size + 1, 1, none⟩ = false := frozen_of_row _ _ 1 _ _ ((set4_far (by omega) _ _ _ _).trans HZq.out.2)
    have yc2 := cell_of_row (set4 wq (w.heap.size) (.int .i64 x.kind) (.string x.text) (.bool x.spaced) (.slice ao x.hidden.length c)) (w.heap.size + 1) 2 _ _ _ ((set4_far (by omega) _ _ _ _).trans HZq.out.2)
    have yf2 : (set4 wq (w.heap.size) (.int .i64 x.kind) (.string x.text) (.bool x.spaced) (.slice ao x.hidden.length c)).frozen? ⟨w.heap.size + 1, 2, none⟩ = false := frozen_of_row _ _ 2 _ _ ((set4_far (by omega) _ _ _ _).trans HZq.out.2)
    have yc3 := cell_of_row (set4 wq (w.heap.size) (.int .i64 x.kind) (.string x.text) (.bool x.spaced) (.slice ao x.hidden.length c)) (w.heap.size + 1) 3 _ _ _ ((set4_far (by omega) _ _ _ _).trans HZq.out.2)
    have yf3 : (set4 wq (w.heap.size) (.int .i64 x.kind) (.string x.text) (.bool x.spaced) (.slice ao x.hidden.length c)).frozen? ⟨w.heap.size + 1, 3, none⟩ = false := frozen_of_row _ _ 3 _ _ ((set4_far (by omega) _ _ _ _).trans HZq.out.2)
    refine wpAnyH_ready (rs := [3]) (by kernel_rfl) (by simp) ?_
    refine AllReadyH.cons rfl (fun K hK => ?_) AllReadyH.nil
    go_simp
    change K _ (set4 (set4 wq (w.heap.size) (.int .i64 x.kind) (.string x.text) (.bool x.spaced) (.slice ao x.hidden.length c)) (w.heap.size + 1) (.int .i64 y.kind) (.string y.text) (.bool y.spaced) (.slice ao2 y.hidden.length c2))
    refine hK.out _ _ ⟨(set4_far (by omega) _ _ _ _).trans ((set4_far (by omega) _ _ _ _).trans HMq.out.1), (set4_far (by omega) _ _ _ _).trans ((set4_far (by omega) _ _ _ _).trans HMq.out.2)⟩ (fun hHeld => ?_)
    clear hK K
    try simp only [Act.put, List.setIfInBounds_toArray, List.set_cons_zero, List.set_cons_succ]
    have HF := Lib.hid (two_abS HZq.out.1 HZq.out.2 (by omega) HTF.out HUF.out ⟨HNI.out.1, HNI.out.2.1, HNI.out.2.2.1, HNI.out.2.2.2⟩ HBq.out ⟨Nat.le_refl _, by omega⟩ (.int .i64 x.kind) (.string x.text) (.bool x.spaced) (.slice ao x.hidden.length c) (.int .i64 y.kind) (.string y.text) (.bool y.spaced) (.slice ao2 y.hidden.length c2))
    refine wpAnyH_done (by kernel_rfl) ?_ _
    refine NoPanic.normal ?_
    clear hHeld
    go_wp2
    refine bodyPost_ret (results_two rfl _ _ w.heap.size (w.heap.size + 1) _ _ _ _ _ _ _ rfl rfl HF.out.1 HF.out.2.1 Try.underlying25 rfl (by kernel_rfl) (by kernel_rfl)) rfl ?_
    exact ⟨x, y, ao, ao2, c, c2, fa, fb, rfl, HF.out.2.2.1, HF.out.2.2.2.1, HOK.out, HOK2.out, HF.out.2.2.2.2⟩

/-- Tokens and a name are drawn. -/
def DrawnHN (w : World) (e : Ending) (w' : World) : Prop :=
  ∃ (v : Value) (L : List (Elem Tok)) (s : ByteArray), e = .returned (.tuple #[v, .string s]) ∧ RowE sTok w.heap.size 25 v L w' ∧ (∀ x ∈ L, okTok x.d) ∧ L.length ≤ 61 ∧ s.size ≤ 10 ∧ Below w.heap.size w w'
set_option maxHeartbeats 4000000 in
set_option maxRecDepth 100000 in
theorem DrawHideName (v : Value) (l : List UInt8) (fp : List Nat) (w : World) (H : (sSlice sByte).R w [v] l fp) :
    Calls Try.prog 13 #[v] w (DrawnHN w) := by
  go_enter Try.func13, Try.ntmps13
  go_wp2_with fail
  refine (l20Open _ l fp _ H).mono ?_
  rintro e w1 ⟨rb, rfl, hrb, hR, hB⟩
  go_wp2_with fail
  refine (l20Tokens rb 0 _ _ hR (by omega) (by omega) (by omega) 0 (by omega) (by omega)).mono ?_
  rintro e w3 ⟨v3, L, q3, rfl, hE, hok, -, hl, hq3, hR3, hK3⟩
  have hs1 := hB.size
  have hB3 := kept_below hB hK3 hrb hs1
  have hw1 := hR.lt
  obtain ⟨a3, c3, rfl, -⟩ := hE.val
  go_wp2_with fail
  refine (l20Word rb q3 _ hR3 (by omega)).mono ?_
  rintro e w4 ⟨s, q4, rfl, hsz, hq4, hR4, hK4⟩
  have hE4 := hE.keptR hK4 (by omega)
  have hB4 := kept_below hB3 hK4 (by omega) hB3.size
  go_wp2
  go_ret2
  exact ⟨_, L, s, rfl, hE4.lower hs1, hok, hl, hsz, hB4⟩


end Go.Proofs.Ytbkmapaieillmaa

/- A token by value: its marks. -/
namespace Go.Proofs.Ytbkmapaieillmaa
open Go.RowKit

def cntVToken (x : Tok) : Nat := x.hidden.length
def mkVToken (k : Int) (x : Tok) : Tok := ⟨x.kind, x.text, x.spaced, marks mtext k x.hidden.length⟩
theorem cntVToken_le (x : Tok) : cntVToken x ≤ wtToken x := by
  have h2 : wtToken x = x.text.size + (x.hidden.length + (x.hidden.map (·.size)).sum) := rfl
  unfold cntVToken; omega
set_option maxHeartbeats 4000000 in
set_option maxRecDepth 100000 in
theorem markToken (cs : List Value) (x : Tok) (fp : List Nat) (lo : Nat) (k : Int) (w : World) (h0 : 0 ≤ k) (h1 : k + cntVToken x ≤ 2305843009213693952) (H : sTok.R w cs x fp) (O : Own w lo fp) :
    Calls Try.prog 21 #[.agg cs.toArray, .int .i64 k] w (MarkedC sTok cs (mkVToken k x) fp lo (k + cntVToken x) w) := by
  obtain ⟨h, rfl, hk, hok, K⟩ := H
  unfold cntVToken at h1 ⊢
  have K' := K
  obtain ⟨a2, cap2, rfl, -⟩ := open_strs K'
  clear K'
  have hb0 := alloc_below' w (.cells #[.int .i64 x.kind, .string x.text, .bool x.spaced, .slice a2 x.hidden.length cap2] 25)
  go_enter Try.func21, Try.ntmps21
  go_wp2_with fail
  refine (markStringS _ _ _ lo _ _ h0 (by omega) ((sSlice sStr).below K hb0) (O.grow hb0)).mono ?_
  rintro e w1 ⟨rfl, R2, P2, hk2⟩
  have hk' : Kept fp w w1 := (Kept.of_below hb0).trans hk2
  clear K O hk2 hb0
  go_wp2
  go_ret
  exact ⟨ret_int (by omega), ⟨_, rfl, hk, hok, R2⟩, P2, hk'⟩

set_option maxHeartbeats 4000000 in
set_option maxRecDepth 100000 in
theorem heldToken (cs : List Value) (x : Tok) (fp : List Nat) (k : Int) (w : World) (h0 : 0 ≤ k) (h1 : k + cntVToken x ≤ 2305843009213693952) (H : sTok.R w cs (mkVToken k x) fp) :
    Calls Try.prog 22 #[.agg cs.toArray, .int .i64 k] w fun e w' => e = .returned (.int .i64 (k + cntVToken x)) ∧ Below w.heap.size w w' := by
  obtain ⟨h, rfl, hk, hok, K⟩ := H
  unfold cntVToken at h1 ⊢
  have hb0 := alloc_below' w (.cells #[.int .i64 x.kind, .string x.text, .bool x.spaced, h] 25)
  have K2 : (sSlice sStr).R w [h] (marks mtext k x.hidden.length) fp := K
  clear K
  go_enter Try.func22, Try.ntmps22
  go_wp2_with fail
  refine (heldStringS _ _ _ _ _ h0 (by omega) ((sSlice sStr).below K2 hb0)).mono ?_
  rintro e w1 ⟨rfl, hb1⟩
  have hB1 := hb0.trans (hb1.mono hb0.size)
  clear K2
  go_wp2
  go_ret
  exact ⟨ret_int (by omega), hB1⟩

end Go.Proofs.Ytbkmapaieillmaa

/- Weights and marks of tokens. No program. -/
namespace Go.Proofs.Ytbkmapaieillmaa
open Go.RowKit

theorem wtTokenS_len {l : List Tok} (h : wtTokenS l ≤ 1048576) : l.length ≤ 1048576 := by unfold wtTokenS at h; omega
theorem wtTokenS_hid {l : List Tok} (h : wtTokenS l ≤ 1048576) : ∀ k, (hk : k < l.length) → l[k].hidden.length ≤ 2000000 := fun k hk => by
  have h1 := wsum_at wtToken l k hk
  unfold wtTokenS at h
  have h2 : wtToken l[k] = l[k].text.size + (l[k].hidden.length + (l[k].hidden.map (·.size)).sum) := rfl
  omega
theorem cnt_bare : ∀ {l : List Tok}, (∀ t ∈ l, t.hidden = []) → cntTokenS l = 3 * l.length
  | [], _ => rfl
  | t :: l, h => by
    have ih := cnt_bare (l := l) (fun t ht => h t (by simp [ht]))
    have h1 : cntTokenS (t :: l) = cntToken t + cntTokenS l := by unfold cntTokenS cntAll; simp
    have h2 : cntToken t = 3 + t.hidden.length := rfl
    rw [h1, ih, h2, h t (by simp)]
    simp; omega
theorem cntTokenS_le : ∀ l : List Tok, cntTokenS l ≤ 3 * wtTokenS l
  | [] => Nat.zero_le _
  | t :: l => by
    have ih := cntTokenS_le l
    have h1 : cntTokenS (t :: l) = cntToken t + cntTokenS l := by unfold cntTokenS cntAll; simp
    have h2 : cntToken t = 3 + t.hidden.length := rfl
    have h3 : wtTokenS (t :: l) = 1 + wtToken t + wtTokenS l := by unfold wtTokenS; simp; omega
    have h4 : wtToken t = t.text.size + (t.hidden.length + (t.hidden.map (·.size)).sum) := rfl
    omega

end Go.Proofs.Ytbkmapaieillmaa
