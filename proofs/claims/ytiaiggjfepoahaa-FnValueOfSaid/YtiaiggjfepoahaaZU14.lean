/- Texts that the proof of U stands on, in one file. -/
import Derived.Test.YtiaiggjfepoahaaZU4
set_option linter.unusedVariables false
set_option linter.unusedSimpArgs false
/- Values in parentheses. No program. -/
namespace Go.Proofs.Ytiaiggjfepoahaa
open Go.RowKit

def shQ (c : Nat) : Ask → Ask
  | .one k => .one (k + c)
  | .marks k rank => .marks (k + c) rank
  | .more rank n e f => .more rank n (e + c) f
  | .choice k => .choice (k + c)
def posR : Ask → Prop
  | .marks _ rank => 1 ≤ rank
  | .more rank _ _ _ => 1 ≤ rank
  | _ => True
section
variable {l pre suf : List Tok} {t : Tok}
theorem sh_len : (pre ++ (l ++ t :: suf)).length = pre.length + l.length + suf.length + 1 := by simp; omega
theorem sh_at {k : Nat} (hk : k < l.length) (h : k + pre.length < (pre ++ (l ++ t :: suf)).length) : (pre ++ (l ++ t :: suf))[k + pre.length] = l[k] := by
  rw [List.getElem_append_right (by omega)]
  simp only [Nat.add_sub_cancel]
  rw [List.getElem_append_left hk]
theorem sh_end (h : l.length + pre.length < (pre ++ (l ++ t :: suf)).length) : (pre ++ (l ++ t :: suf))[l.length + pre.length] = t := by
  rw [List.getElem_append_right (by omega)]
  simp only [Nat.add_sub_cancel]
  rw [List.getElem_append_right (Nat.le_refl _)]
  simp
theorem sh_mk {k : Nat} (hk : k < l.length) (s : List UInt8) : mkAt (pre ++ (l ++ t :: suf)) (k + pre.length) s = mkAt l k s := by
  have h : k + pre.length < (pre ++ (l ++ t :: suf)).length := by rw [sh_len]; omega
  unfold mkAt
  rw [dif_pos h, dif_pos hk, sh_at hk]
theorem sh_mkE (s : List UInt8) : mkAt (pre ++ (l ++ t :: suf)) (l.length + pre.length) s = isMk t s := by
  have h : l.length + pre.length < (pre ++ (l ++ t :: suf)).length := by rw [sh_len]; omega
  unfold mkAt
  rw [dif_pos h, sh_end]
theorem shut_rank (h : isMk t [41] = true) : rankM t = 0 := by
  unfold isMk at h
  rw [Bool.and_eq_true, decide_eq_true_eq, beq_iff_eq] at h
  unfold rankM
  rw [if_pos h.1, h.2]; rfl
theorem shut_not (h : isMk t [41] = true) : isMk t [63] = false := by
  unfold isMk at h ⊢
  rw [Bool.and_eq_true, decide_eq_true_eq, beq_iff_eq] at h
  rw [h.2, show (([41] : List UInt8) == [63]) = false from rfl, Bool.and_false]
/-- What was reckoned without a fault is reckoned alike where the tokens stand behind others, and a ) behind them. -/
theorem pv_shift (ht : isMk t [41] = true) : ∀ (d : Nat) (q : Ask) (r : VRes), okQ l q → posR q → pv l d q = some r → r.2.2 = 0 → pv (pre ++ (l ++ t :: suf)) d (shQ pre.length q) = some (r.1, r.2.1 + pre.length, 0) := by
  intro d
  induction d with
  | zero => intro q r _ _ h; simp [pv] at h
  | succ d ih =>
    intro q r hq hp h h0
    cases q with
    | one k =>
      unfold pv at h
      unfold shQ
      unfold pv
      by_cases hk : k < l.length
      rotate_left
      · rw [dif_neg hk] at h
        simp only [Option.some.injEq] at h
        subst h
        exact absurd (show (1 : Int) = 0 from h0) (by decide)
      rw [dif_pos hk] at h
      have hk2 : k + pre.length < (pre ++ (l ++ t :: suf)).length := by rw [sh_len]; omega
      rw [dif_pos hk2, sh_at hk hk2]
      have e1 : k + pre.length + 1 = k + 1 + pre.length := by omega
      rw [e1]
      by_cases h1 : isMk l[k] [33] = true
      · rw [if_pos h1] at h ⊢
        obtain ⟨a, h2, h3⟩ := bind_some h
        simp only [Option.some.injEq] at h3
        subst h3
        have := ih _ _ (show okQ l (.one (k + 1)) from hk) trivial h2 h0
        rw [show shQ pre.length (.one (k + 1)) = .one (k + 1 + pre.length) from rfl] at this
        rw [this]; rfl
      rw [if_neg h1] at h ⊢
      by_cases h2 : isMk l[k] [45] = true
      · rw [if_pos h2] at h ⊢
        obtain ⟨a, h4, h3⟩ := bind_some h
        simp only [Option.some.injEq] at h3
        subst h3
        have := ih _ _ (show okQ l (.one (k + 1)) from hk) trivial h4 h0
        rw [show shQ pre.length (.one (k + 1)) = .one (k + 1 + pre.length) from rfl] at this
        rw [this]; rfl
      rw [if_neg h2] at h ⊢
      by_cases h3 : isMk l[k] [40] = true
      · rw [if_pos h3] at h ⊢
        obtain ⟨a, h4, h5⟩ := bind_some h
        simp only [Option.some.injEq] at h5
        subst h5
        have h0' : (if a.2.2 = 0 ∧ mkAt l a.2.1 [41] = false then (1 : Int) else a.2.2) = 0 := h0
        split at h0'
        · simp at h0'
        · rename_i h6
          have h7 : mkAt l a.2.1 [41] = true := by
            cases hm : mkAt l a.2.1 [41]
            · exact absurd ⟨h0', hm⟩ h6
            · rfl
          obtain ⟨h8, -⟩ := mkAt_lt h7
          have := ih _ _ (show okQ l (.choice (k + 1)) from hk) trivial h4 h0'
          rw [show shQ pre.length (.choice (k + 1)) = .choice (k + 1 + pre.length) from rfl] at this
          rw [this]
          simp only [Option.bind_some]
          rw [sh_mk h8, if_neg (fun h => by rw [h7] at h; exact absurd h.2 (by simp))]
          show some (a.1, a.2.1 + pre.length + 1, (0 : Int)) = some (a.1, a.2.1 + 1 + pre.length, 0)
          rw [show a.2.1 + pre.length + 1 = a.2.1 + 1 + pre.length by omega]
      rw [if_neg h3] at h ⊢
      by_cases h4 : (l[k]).kind = 1
      · rw [if_pos h4] at h ⊢
        simp only [Option.some.injEq] at h
        subst h
        rfl
      rw [if_neg h4] at h ⊢
      by_cases h5 : (l[k]).kind = 2 ∧ 0 ≤ numRes (l[k]).text.toList
      · rw [if_pos h5] at h ⊢
        simp only [Option.some.injEq] at h
        subst h
        rfl
      rw [if_neg h5] at h
      simp only [Option.some.injEq] at h
      subst h
      exact absurd (show (1 : Int) = 0 from h0) (by decide)
    | marks k rank =>
      unfold pv at h
      unfold shQ
      unfold pv
      obtain ⟨a, h1, h2⟩ := bind_some h
      by_cases hf : a.2.2 = 0
      rotate_left
      · have := more_bad h2 hf
        subst this
        exact absurd h0 hf
      have h3 := ih _ _ (show okQ l (.one k) from hq) trivial h1 hf
      rw [show shQ pre.length (.one k) = .one (k + pre.length) from rfl] at h3
      rw [h3]
      obtain ⟨g1, g2, g3, -, -⟩ := pv_fine l d _ _ (show okQ l (.one k) from hq) h1
      rw [hf] at h2
      exact ih (.more rank a.1 a.2.1 0) r ⟨rfl, (g3 hf).1, g1⟩ hp h2 h0
    | more rank n p f =>
      obtain ⟨hf, hpl, hn⟩ := hq
      have hp1 : 1 ≤ rank := hp
      subst hf
      unfold pv at h
      unfold shQ
      unfold pv
      by_cases hk : p < l.length
      rotate_left
      · rw [dif_neg (fun h => hk h.2)] at h
        simp only [Option.some.injEq] at h
        subst h
        have hpe : p = l.length := by omega
        subst hpe
        have hk2 : l.length + pre.length < (pre ++ (l ++ t :: suf)).length := by rw [sh_len]; omega
        rw [dif_pos ⟨rfl, hk2⟩, sh_end, shut_rank ht, if_pos (by omega)]
      have hk2 : p + pre.length < (pre ++ (l ++ t :: suf)).length := by rw [sh_len]; omega
      rw [dif_pos ⟨rfl, hk⟩] at h
      rw [dif_pos ⟨rfl, hk2⟩, sh_at hk hk2]
      by_cases h1 : rankM l[p] < rank
      · rw [if_pos h1] at h ⊢
        simp only [Option.some.injEq] at h
        subst h
        rfl
      rw [if_neg h1] at h ⊢
      obtain ⟨a, h2, h3⟩ := bind_some h
      by_cases h4 : a.2.2 ≠ 0
      · rw [if_pos h4] at h3
        simp only [Option.some.injEq] at h3
        subst h3
        exact absurd h0 h4
      rw [if_neg h4] at h3
      have h40 : a.2.2 = 0 := by omega
      have h5 := ih _ _ (show okQ l (.marks (p + 1) (rankM l[p] + 1)) from hk) (show 1 ≤ rankM l[p] + 1 by omega) h2 h40
      rw [show shQ pre.length (.marks (p + 1) (rankM l[p] + 1)) = .marks (p + 1 + pre.length) (rankM l[p] + 1) from rfl] at h5
      rw [show p + pre.length + 1 = p + 1 + pre.length by omega, h5]
      simp only [Option.bind_some]
      rw [if_neg (by simp)]
      obtain ⟨g1, g2, g3, -, -⟩ := pv_fine l d _ _ (show okQ l (.marks (p + 1) (rankM l[p] + 1)) from hk) h2
      obtain ⟨m1, m2, m3⟩ := applyM_in l[p].text.toList n a.1
      by_cases hw : (applyM l[p].text.toList n a.1).2 = 0
      · rw [hw] at h3 ⊢
        exact ih (.more rank _ a.2.1 0) r ⟨rfl, (g3 h40).1, m1⟩ hp h3 h0
      · have := more_bad h3 hw
        subst this
        exact absurd h0 hw
    | choice k =>
      unfold pv at h
      unfold shQ
      unfold pv
      obtain ⟨a, h1, h2⟩ := bind_some h
      by_cases hf : a.2.2 = 0
      rotate_left
      · rw [if_neg (fun h => hf h.1)] at h2
        simp only [Option.some.injEq] at h2
        subst h2
        exact absurd h0 hf
      have h3 := ih _ _ (show okQ l (.marks k 1) from hq) (show 1 ≤ 1 by omega) h1 hf
      rw [show shQ pre.length (.marks k 1) = .marks (k + pre.length) 1 from rfl] at h3
      rw [h3]
      simp only [Option.bind_some]
      obtain ⟨g1, g2, g3, -, -⟩ := pv_fine l d _ _ (show okQ l (.marks k 1) from hq) h1
      have g6 := (g3 hf).1
      by_cases hm : mkAt l a.2.1 [63] = true
      rotate_left
      · rw [if_neg (fun h => hm h.2)] at h2
        simp only [Option.some.injEq] at h2
        subst h2
        have e1 : mkAt (pre ++ (l ++ t :: suf)) (a.2.1 + pre.length) [63] = false := by
          by_cases hlt : a.2.1 < l.length
          · rw [sh_mk hlt]; simpa using hm
          · have : a.2.1 = l.length := by omega
            rw [this, sh_mkE]; exact shut_not ht
        rw [if_neg (fun h => by rw [e1] at h; exact absurd h.2 (by simp))]
      rw [if_pos ⟨hf, hm⟩] at h2
      obtain ⟨q1, -⟩ := mkAt_lt hm
      rw [if_pos ⟨trivial, by rw [sh_mk q1]; exact hm⟩]
      obtain ⟨b, h4, h5⟩ := bind_some h2
      by_cases h6 : b.2.2 ≠ 0
      · rw [if_pos h6] at h5
        simp only [Option.some.injEq] at h5
        subst h5
        exact absurd h0 h6
      rw [if_neg h6] at h5
      have h60 : b.2.2 = 0 := by omega
      have h7 := ih _ _ (show okQ l (.choice (a.2.1 + 1)) from q1) trivial h4 h60
      rw [show shQ pre.length (.choice (a.2.1 + 1)) = .choice (a.2.1 + 1 + pre.length) from rfl] at h7
      rw [show a.2.1 + pre.length + 1 = a.2.1 + 1 + pre.length by omega, h7]
      simp only [Option.bind_some]
      rw [if_neg (by simp)]
      by_cases h8 : mkAt l b.2.1 [58] = true
      rotate_left
      · rw [if_neg h8] at h5
        simp only [Option.some.injEq] at h5
        subst h5
        exact absurd (show (1 : Int) = 0 from h0) (by decide)
      rw [if_pos h8] at h5
      obtain ⟨q2, -⟩ := mkAt_lt h8
      rw [if_pos (by rw [sh_mk q2]; exact h8)]
      obtain ⟨c, h9, h10⟩ := bind_some h5
      simp only [Option.some.injEq] at h10
      subst h10
      have h11 := ih _ _ (show okQ l (.choice (b.2.1 + 1)) from q2) trivial h9 h0
      rw [show shQ pre.length (.choice (b.2.1 + 1)) = .choice (b.2.1 + 1 + pre.length) from rfl] at h11
      rw [show b.2.1 + pre.length + 1 = b.2.1 + 1 + pre.length by omega, h11]
      rfl
end
def oT : Tok := ⟨4, ⟨#[40]⟩, false, []⟩
def cT : Tok := ⟨4, ⟨#[41]⟩, false, []⟩
def nT : Tok := ⟨4, ⟨#[33]⟩, false, []⟩
theorem isMk_lit (k : UInt8) (c : UInt8) : isMk ⟨4, ⟨#[k]⟩, false, []⟩ [c] = decide (k = c) := by
  unfold isMk
  rw [show ((⟨#[k]⟩ : ByteArray).toList) = [k] by rw [ByteArray.toList_eq], decide_eq_true rfl, Bool.true_and]
  by_cases h : k = c
  · subst h; simp
  · simp [h]
theorem oT_mk (c : UInt8) : isMk oT [c] = decide (40 = c) := isMk_lit 40 c
theorem cT_mk : isMk cT [41] = true := by rw [show isMk cT [41] = decide ((41 : UInt8) = 41) from isMk_lit 41 41]; decide
theorem nT_mk : isMk nT [33] = true := by rw [show isMk nT [33] = decide ((33 : UInt8) = 33) from isMk_lit 33 33]; decide
/-- What is reckoned of a list without a fault, as far as it goes. -/
theorem val_good {l : List Tok} {n : Int} (h : valRes l = (n, 0)) (hv : toksOk l = true) : pv l (4 * l.length + 4) (.choice 0) = some (n, l.length, 0) := by
  unfold valRes at h
  rw [if_pos hv] at h
  obtain ⟨⟨m, e, f⟩, hp⟩ := pv_total l (4 * l.length + 4) (.choice 0) (Nat.zero_le _) (by show 4 * (l.length - 0) + 4 ≤ _; omega)
  rw [hp] at h ⊢
  simp only at h
  by_cases hf : f = 0
  · subst hf
    rw [if_neg (by simp)] at h
    by_cases he : e = l.length
    · subst he
      rw [if_neg (by simp)] at h
      simp only [Prod.mk.injEq, and_true] at h
      rw [h]
    · rw [if_pos he] at h; simp at h
  · rw [if_pos hf] at h
    simp only [Prod.mk.injEq] at h
    exact absurd h.2 hf
theorem val_of {l : List Tok} {n : Int} {d : Nat} (hv : toksOk l = true) (hp : pv l d (.choice 0) = some (n, l.length, 0)) : valRes l = (n, 0) := by
  obtain ⟨r, hr⟩ := pv_total l (4 * l.length + 4) (.choice 0) (Nat.zero_le _) (by show 4 * (l.length - 0) + 4 ≤ _; omega)
  have e : r = (n, l.length, 0) := by
    have h1 := pv_mono l d _ _ hp (d + (4 * l.length + 4)) (by omega)
    have h2 := pv_mono l (4 * l.length + 4) _ _ hr (d + (4 * l.length + 4)) (by omega)
    rw [h1] at h2
    simpa using h2.symm
  subst e
  unfold valRes
  rw [if_pos hv, hr]
  simp
/-- Behind the value of something in parentheses the tokens end. -/
theorem one_paren {pre l : List Tok} {d : Nat} {n : Int} (hp : pv l d (.choice 0) = some (n, l.length, 0)) : pv (pre ++ oT :: (l ++ [cT])) (d + 1) (.one pre.length) = some (n, (pre ++ oT :: (l ++ [cT])).length, 0) := by
  have hs := pv_shift (pre := pre ++ [oT]) (suf := []) (t := cT) cT_mk d (.choice 0) _ (Nat.zero_le _) trivial hp rfl
  rw [show pre ++ [oT] ++ (l ++ [cT]) = pre ++ oT :: (l ++ [cT]) by simp, show shQ (pre ++ [oT]).length (.choice 0) = .choice (pre.length + 1) by unfold shQ; simp] at hs
  have hl : (pre ++ oT :: (l ++ [cT])).length = pre.length + l.length + 2 := by simp; omega
  have hk : pre.length < (pre ++ oT :: (l ++ [cT])).length := by omega
  have h0 : (pre ++ oT :: (l ++ [cT]))[pre.length] = oT := by rw [List.getElem_append_right (Nat.le_refl _)]; simp
  unfold pv
  rw [dif_pos hk, h0, if_neg (by rw [oT_mk]; decide), if_neg (by rw [oT_mk]; decide), if_pos (by rw [oT_mk]; decide), hs]
  simp only [Option.bind_some]
  have hm : mkAt (pre ++ oT :: (l ++ [cT])) (l.length + (pre ++ [oT]).length) [41] = true := by
    have := sh_mkE (l := l) (pre := pre ++ [oT]) (suf := []) (t := cT) [41]
    rw [show pre ++ [oT] ++ (l ++ [cT]) = pre ++ oT :: (l ++ [cT]) by simp] at this
    rw [this]; exact cT_mk
  rw [if_neg (fun h => by rw [hm] at h; exact absurd h.2 (by simp)), hl]
  simp
  omega
theorem choice_end {L : List Tok} {d : Nat} {n : Int} (h : pv L d (.one 0) = some (n, L.length, 0)) : pv L (d + 2) (.choice 0) = some (n, L.length, 0) := by
  have hm : pv L (d + 1) (.marks 0 1) = some (n, L.length, 0) := by
    unfold pv
    rw [h]
    simp only [Option.bind_some]
    cases d with
    | zero => simp [pv] at h
    | succ d =>
      unfold pv
      rw [dif_neg (fun h => by have := h.2; omega)]
  show pv L ((d + 1) + 1) (.choice 0) = _
  unfold pv
  rw [hm]
  simp only [Option.bind_some]
  rw [if_neg]
  rintro ⟨-, h2⟩
  obtain ⟨h3, -⟩ := mkAt_lt h2
  omega
theorem val_paren {l : List Tok} {n : Int} (h : valRes l = (n, 0)) (hv : toksOk l = true) (hv2 : toksOk (oT :: (l ++ [cT])) = true) : valRes (oT :: (l ++ [cT])) = (n, 0) :=
  val_of hv2 (choice_end (by have := one_paren (pre := []) (val_good h hv); simpa using this))
theorem val_not {l : List Tok} {n : Int} (h : valRes l = (n, 0)) (hv : toksOk l = true) (hv2 : toksOk (nT :: oT :: (l ++ [cT])) = true) : valRes (nT :: oT :: (l ++ [cT])) = (bit1 (decide (n = 0)), 0) := by
  have h1 := one_paren (pre := [nT]) (val_good h hv)
  refine val_of (d := _) hv2 (choice_end (d := (4 * l.length + 4 + 1) + 1) ?_)
  unfold pv
  rw [dif_pos (by simp), show (nT :: oT :: (l ++ [cT]))[0] = nT from rfl, if_pos nT_mk]
  rw [show [nT] ++ oT :: (l ++ [cT]) = nT :: oT :: (l ++ [cT]) from rfl, show [nT].length = 0 + 1 from rfl] at h1
  rw [h1]
  rfl

end Go.Proofs.Ytiaiggjfepoahaa
