/- Texts that the proof of EUndefine stands on, in one file. -/
import Derived.Test.YtdnjpjiepnhhhabZEUndefine9
import Derived.Test.YtdnjpjiepnhhhabZEUndefine1
import Derived.Laws.AppendOwnNone
set_option linter.unusedVariables false
set_option linter.unusedSimpArgs false
/- What the program reads as parameters is what the model reads, up to macros that are not valid: no program. -/
namespace Go.Proofs.Ytdnjpjiepnhhhab
open Go.RowKit

theorem kind_head {t : Tok} (h : tokOk t = true) {c : UInt8} {l : List UInt8} (e : t.text = ⟨(c :: l).toArray⟩) : t.kind = cutKind c := by
  obtain ⟨h0, hk⟩ := (tokOk_facts h).1
  obtain ⟨k, x, s, hd⟩ := t
  obtain rfl : x = ⟨(c :: l).toArray⟩ := e
  exact hk
theorem kind_name {t : Tok} (h : tokOk t = true) (h1 : oneTok t.text 1 = true) : t.kind = 1 := by
  obtain ⟨h0, k1⟩ := (tokOk_facts h).1
  obtain ⟨_, k2⟩ := (tokOk_facts (nameT_ok h1)).1
  exact k1.trans k2.symm
theorem close_kind {t : Tok} (h : tokOk t = true) (e : t.text = closeB) : t.kind = 4 := kind_head (c := 41) (l := []) h e
theorem name_no_close {t : Tok} (h : tokOk t = true) (hk : t.kind = 1) : t.text ≠ closeB := fun e => by
  have := close_kind h e
  omega
theorem com_no_close : commaB ≠ closeB := by decide
theorem op_no_close : openB ≠ closeB := by decide
theorem txt_eq {x : ByteArray} {l : List UInt8} (h : (x.toList == l) = true) : x = ⟨l.toArray⟩ := by rw [txt_dec] at h; exact of_decide_eq_true h

theorem pat_reads {l : List Tok} (hT : ∀ k, (hk : k < l.length) → tokOk l[k] = true) (k : Nat) : ∀ ps b, parsAt l k = some (ps, b) → k % 2 = 0 → 2 ≤ k →
    k + 2 ≤ b ∧ b ≤ l.length ∧ b % 2 = 0 ∧ (∀ j, (hj : j < l.length) → k ≤ j → j + 1 < b → l[j].text ≠ closeB) ∧ (∀ h : b - 1 < l.length, l[b - 1].text = closeB) ∧
    (∀ ins : List Tok, ins.length = b - 3 → (∀ j, (hj : j < ins.length) → ∃ h : j + 2 < l.length, ins[j] = l[j + 2]) → coms ins (k - 2) = true → coms ins (b - 3) = true ∧ evs ins (b - 3) = evs ins (k - 2) ++ ps) := by
  induction k using parsAt.induct (l := l) with
  | case1 k h h1 h2 =>
    intro ps b hp hk hk2
    rw [pa_close h h1 h2, Option.some.injEq, Prod.mk.injEq] at hp
    obtain ⟨rfl, rfl⟩ := hp
    refine ⟨by omega, by omega, by omega, fun j hj hkj hjb => ?_, fun _ => ?_, fun ins hl hi hc => ?_⟩
    · obtain rfl : j = k := by omega
      exact name_no_close (hT _ _) h1
    · exact h2
    · have hk3 : k - 2 < ins.length := by omega
      have e1 : k + 2 - 3 = k - 2 + 1 := by omega
      obtain ⟨g, e2⟩ := hi (k - 2) hk3
      have e3 : ins[k - 2].text = l[k].text := by rw [e2]; congr 2; omega
      rw [e1, coms_even (by omega), evs_even hk3 (by omega), e3]
      exact ⟨hc, rfl⟩
  | case2 k h h1 h2 h3 ih =>
    intro ps b hp hk hk2
    rw [pa_comma h h1 h2 h3, Option.map_eq_some_iff] at hp
    obtain ⟨⟨q, b'⟩, hq, he⟩ := hp
    rw [Prod.mk.injEq] at he
    obtain ⟨rfl, rfl⟩ := he
    obtain ⟨g1, g2, g3, g4, g5, g6⟩ := ih q b' hq (by omega) (by omega)
    refine ⟨by omega, g2, g3, fun j hj hkj hjb => ?_, g5, fun ins hl hi hc => ?_⟩
    · by_cases e : j = k
      · subst e; exact name_no_close (hT _ _) h1
      · by_cases e' : j = k + 1
        · subst e'; exact h2
        · exact g4 j hj (by omega) hjb
    · have hk3 : k - 2 < ins.length := by omega
      have hk4 : k - 2 + 1 < ins.length := by omega
      have e1 : k + 2 - 2 = k - 2 + 1 + 1 := by omega
      obtain ⟨ga, e2⟩ := hi (k - 2) hk3
      have e3 : ins[k - 2].text = l[k].text := by rw [e2]; congr 2; omega
      obtain ⟨gb, e4⟩ := hi (k - 2 + 1) hk4
      have e5 : ins[k - 2 + 1].text = l[k + 1].text := by rw [e4]; congr 2; omega
      have hc2 : coms ins (k + 2 - 2) = true := by
        rw [e1, coms_odd hk4 (by omega), coms_even (by omega), hc, e5, txt_t (l := [44]) h3]; rfl
      obtain ⟨f1, f2⟩ := g6 ins hl hi hc2
      refine ⟨f1, ?_⟩
      rw [f2, e1, evs_odd (by omega), evs_even hk3 (by omega), e3, List.append_assoc]
      rfl
  | case3 k h h1 h2 h3 => intro ps b hp; rw [pa_other h h1 h2 h3] at hp; cases hp
  | case4 k h h1 => intro ps b hp; rw [pa_kind h h1] at hp; cases hp
  | case5 k h => intro ps b hp; rw [pa_end h] at hp; cases hp

theorem cl_first {L : List Tok} {e : Nat} (he : e < L.length) (h1 : ∀ j, (hj : j < L.length) → j < e → (L[j].text.toList == [41]) = false) (h2 : (L[e].text.toList == [41]) = true) : ∀ d k, k + d = e → idxCl L k = e := by
  intro d
  induction d with
  | zero => intro k hk; obtain rfl : k = e := by omega
            exact cl_hit he h2
  | succ d ih => intro k hk; rw [cl_miss (by omega) (h1 k (by omega) (by omega))]; exact ih (k + 1) (by omega)
theorem cl_is {l : List Tok} (k : Nat) : ∀ e : Nat, idxCl l k = (e : Int) → ∃ h : e < l.length, k ≤ e ∧ (l[e].text.toList == [41]) = true ∧ ∀ j, (hj : j < l.length) → k ≤ j → j < e → (l[j].text.toList == [41]) = false := by
  induction k using idxCl.induct (l := l) with
  | case1 k h hc =>
    intro e he
    rw [cl_hit h hc] at he
    obtain rfl : k = e := by omega
    exact ⟨h, Nat.le_refl _, hc, fun j _ _ _ => by omega⟩
  | case2 k h hc ih =>
    intro e he
    rw [cl_miss h (by simpa using hc)] at he
    obtain ⟨g1, g2, g3, g4⟩ := ih e he
    refine ⟨g1, by omega, g3, fun j hj hkj hje => ?_⟩
    by_cases e' : j = k
    · subst e'; simpa using hc
    · exact g4 j hj (by omega) hje
  | case3 k h => intro e he; rw [cl_end (by omega)] at he; omega

/-- What is read as parameters of the model is read so by the program. -/
theorem rp_some {l : List Tok} (hT : ∀ k, (hk : k < l.length) → tokOk l[k] = true) (ho : opens2 l = true) {ps : List ByteArray} {b : Nat} (h : parsOf l = some (ps, b)) : rpRes (l.drop 1) = (ps, (b : Int) - 1) ∧ 3 ≤ b ∧ b ≤ l.length := by
  have h1 : 1 < l.length := by
    by_cases h1 : 1 < l.length
    · exact h1
    · rw [op_short h1] at ho; simp at ho
  have hop : l[1].text = openB := by
    by_cases e : l[1].text = openB
    · exact e
    · rw [op_other h1 e] at ho; simp at ho
  have hg : ∀ j, (hj : j < (l.drop 1).length) → ∃ h : j + 1 < l.length, (l.drop 1)[j] = l[j + 1] := fun j hj => by
    rw [List.length_drop] at hj
    exact ⟨by omega, by simp [Nat.add_comm]⟩
  have hlen : (l.drop 1).length = l.length - 1 := List.length_drop
  unfold parsOf at h
  split at h
  · rename_i h2
    split at h
    · rename_i h3
      rw [Option.some.injEq, Prod.mk.injEq] at h
      obtain ⟨rfl, rfl⟩ := h
      have hc : idxCl (l.drop 1) 0 = (1 : Nat) := by
        refine cl_first (by omega) (fun j hj hje => ?_) ?_ 1 0 rfl
        · obtain rfl : j = 0 := by omega
          obtain ⟨_, e⟩ := hg 0 hj
          rw [e]
          exact txt_f (l := [41]) (by rw [hop]; exact op_no_close)
        · obtain ⟨_, e⟩ := hg 1 (by omega)
          rw [e]
          exact txt_t (l := [41]) h3.1
      refine ⟨?_, by omega, by omega⟩
      have hi : insOf (l.drop 1) 1 = [] := List.length_eq_zero_iff.1 (by rw [ins_len (by omega)])
      unfold rpRes
      rw [hc, if_neg (by omega)]
      simp only [Int.toNat_natCast, hi]
      rfl
    · obtain ⟨g1, g2, g3, g4, g5, g6⟩ := pat_reads hT 2 ps b h rfl (Nat.le_refl _)
      have hc : idxCl (l.drop 1) 0 = ((b - 2 : Nat) : Int) := by
        refine cl_first (by omega) (fun j hj hje => ?_) ?_ (b - 2) 0 (by omega)
        · obtain ⟨g, e⟩ := hg j hj
          rw [e]
          refine txt_f (l := [41]) ?_
          by_cases e0 : j = 0
          · subst e0
            rw [hop]; exact op_no_close
          · exact g4 (j + 1) g (by omega) (by omega)
        · obtain ⟨g, e⟩ := hg (b - 2) (by omega)
          have e5 := g5 (by omega)
          have e6 : l[b - 2 + 1].text = l[b - 1].text := by congr 2; omega
          rw [e]
          exact txt_t (l := [41]) (e6.trans e5)
      have hil := ins_len (l := l.drop 1) (e := b - 2) (by omega)
      have hib : (insOf (l.drop 1) (b - 2)).length = b - 3 := by omega
      obtain ⟨f1, f2⟩ := g6 (insOf (l.drop 1) (b - 2)) hib (fun j hj => by
        have := ins_get (l := l.drop 1) (e := b - 2) (k := j) (by omega) hj
        obtain ⟨g, e⟩ := hg (j + 1) (by omega)
        exact ⟨by omega, this.trans e⟩) rfl
      refine ⟨?_, by omega, g2⟩
      unfold rpRes
      rw [hc, if_neg (by omega)]
      show (if 0 < (insOf (l.drop 1) (b - 2)).length ∧ (insOf (l.drop 1) (b - 2)).length % 2 = 0 then _ else if coms (insOf (l.drop 1) (b - 2)) (insOf (l.drop 1) (b - 2)).length = true then (evs (insOf (l.drop 1) (b - 2)) (insOf (l.drop 1) (b - 2)).length, ((b - 2 : Nat) : Int) + 1) else _) = _
      rw [hib, if_neg (by omega), if_pos f1, f2]
      show (([] : List ByteArray) ++ ps, _) = _
      rw [List.nil_append, Prod.mk.injEq]
      exact ⟨rfl, by omega⟩
  · cases h

theorem evs_mem {ins : List Tok} : ∀ k j, j < k → (hj : j < ins.length) → j % 2 = 0 → ins[j].text ∈ evs ins k
  | 0, j, h, _, _ => by omega
  | k + 1, j, h, hj, h2 => by
    by_cases e : j = k
    · subst e; rw [evs_even hj h2]; simp
    · have ih := evs_mem k j (by omega) hj h2
      rw [evs]
      split
      · split
        · exact List.mem_append.2 (.inl ih)
        · exact ih
      · exact ih
theorem coms_at {ins : List Tok} : ∀ k, coms ins k = true → ∀ j, j < k → (hj : j < ins.length) → ¬ j % 2 = 0 → (ins[j].text.toList == [44]) = true
  | 0, _, j, h, _, _ => by omega
  | k + 1, hc, j, h, hj, h2 => by
    by_cases e : j = k
    · subst e
      rw [coms_odd hj h2, Bool.and_eq_true] at hc
      exact hc.2
    · refine coms_at k ?_ j (by omega) hj h2
      rw [coms, Bool.and_eq_true] at hc
      exact hc.1

theorem pat_some {l : List Tok} {c : Nat} (hc : c < l.length) (hcl : l[c].text = closeB) (hn : ∀ j, (hj : j < l.length) → 2 ≤ j → j < c → j % 2 = 0 → l[j].kind = 1) (hm : ∀ j, (hj : j < l.length) → 2 ≤ j → j < c → ¬ j % 2 = 0 → l[j].text = commaB) :
    ∀ d k, k + 2 * d + 1 = c → 2 ≤ k → k % 2 = 0 → ∃ p, parsAt l k = some p := by
  intro d
  induction d with
  | zero =>
    intro k hk h2 he
    have hk1 : k + 1 = c := by omega
    subst hk1
    exact ⟨_, pa_close hc (hn k (by omega) h2 (by omega) he) hcl⟩
  | succ d ih =>
    intro k hk h2 he
    obtain ⟨p, hp⟩ := ih (k + 2) (by omega) (by omega) (by omega)
    have e := hm (k + 1) (by omega) (by omega) (by omega) (by omega)
    rw [pa_comma (by omega) (hn k (by omega) h2 (by omega) he) (by rw [e]; exact com_no_close) e, hp]
    exact ⟨_, rfl⟩

/-- What the model does not read as parameters the program does not, or the macro is not valid. -/
theorem rp_none_of {l : List Tok} (hT : ∀ k, (hk : k < l.length) → tokOk l[k] = true) (ho : opens2 l = true) (h : parsOf l = none) (hb : 0 ≤ (rpRes (l.drop 1)).2) (nm : ByteArray) (bd : List Tok) : macOk ⟨nm, true, (rpRes (l.drop 1)).1, bd⟩ = false := by
  cases hv : macOk ⟨nm, true, (rpRes (l.drop 1)).1, bd⟩
  · rfl
  exfalso
  obtain ⟨_, hpar, _⟩ := macOk_facts hv
  have h1 : 1 < l.length := by
    by_cases h1 : 1 < l.length
    · exact h1
    · rw [op_short h1] at ho; simp at ho
  have hop : l[1].text = openB := by
    by_cases e : l[1].text = openB
    · exact e
    · rw [op_other h1 e] at ho; simp at ho
  have hlen : (l.drop 1).length = l.length - 1 := List.length_drop
  have hg : ∀ j, (hj : j < (l.drop 1).length) → ∃ h : j + 1 < l.length, (l.drop 1)[j] = l[j + 1] := fun j hj => by
    rw [hlen] at hj
    exact ⟨by omega, by simp [Nat.add_comm]⟩
  rcases cl_ways (l.drop 1) 0 with hn | ⟨e, he, -, hel⟩
  · unfold rpRes at hb; rw [hn, if_pos (by omega)] at hb; simp at hb
  obtain ⟨_, _, hc1, hc2⟩ := cl_is 0 e he
  obtain ⟨gc, ec⟩ := hg e hel
  rw [ec] at hc1
  have hclose : l[e + 1].text = closeB := txt_eq (l := [41]) hc1
  have he0 : 0 < e := by
    rcases Nat.eq_zero_or_pos e with h0 | h0
    · subst h0
      have : l[0 + 1].text = l[1].text := rfl
      rw [this, hop] at hclose
      exact absurd hclose op_no_close
    · exact h0
  have hil := ins_len hel
  have hrp : rpRes (l.drop 1) = (if 0 < (insOf (l.drop 1) e).length ∧ (insOf (l.drop 1) e).length % 2 = 0 then ([], -1) else (if coms (insOf (l.drop 1) e) (insOf (l.drop 1) e).length = true then (evs (insOf (l.drop 1) e) (insOf (l.drop 1) e).length, (e : Int) + 1) else ([], -1))) := by
    unfold rpRes
    rw [he, if_neg (by omega)]
    rfl
  rw [hil] at hrp
  have hodd : ¬ (0 < e - 1 ∧ (e - 1) % 2 = 0) := fun hh => by rw [if_pos hh] at hrp; rw [hrp] at hb; simp at hb
  rw [if_neg hodd] at hrp
  have hcm : coms (insOf (l.drop 1) e) (e - 1) = true := by
    cases hcm : coms (insOf (l.drop 1) e) (e - 1)
    · rw [hcm, if_neg (by simp)] at hrp; rw [hrp] at hb; simp at hb
    · rfl
  rw [if_pos hcm] at hrp
  rw [hrp] at hpar
  have hins : ∀ j, (hj : j < (insOf (l.drop 1) e).length) → ∃ h : j + 2 < l.length, (insOf (l.drop 1) e)[j] = l[j + 2] := fun j hj => by
    have := ins_get hel hj
    obtain ⟨g, e'⟩ := hg (j + 1) (by omega)
    exact ⟨by omega, this.trans e'⟩
  have hs : ∃ p, parsOf l = some p := by
    unfold parsOf
    rw [dif_pos (show 2 < l.length by omega)]
    by_cases h3 : l[2].text = closeB ∧ l[2].kind = 4
    · rw [if_pos h3]; exact ⟨_, rfl⟩
    rw [if_neg h3]
    have he2 : ¬ e = 1 := fun e1 => by
      subst e1
      exact h3 ⟨hclose, close_kind (hT _ _) hclose⟩
    refine pat_some (c := e + 1) gc hclose (fun j hj hj2 hjc he => ?_) (fun j hj hj2 hjc he => ?_) ((e - 2) / 2) 2 (by omega) (by omega) rfl
    · have hj' : j - 2 < (insOf (l.drop 1) e).length := by omega
      obtain ⟨g, e1⟩ := hins (j - 2) hj'
      have hm := evs_mem (ins := insOf (l.drop 1) e) (e - 1) (j - 2) (by omega) hj' (by omega)
      obtain ⟨i, hi, ei⟩ := List.getElem_of_mem hm
      have ho1 := hpar i hi
      rw [ei, e1] at ho1
      have e2 : l[j - 2 + 2] = l[j] := by congr 1; omega
      rw [e2] at ho1
      exact kind_name (hT j hj) ho1
    · have hj' : j - 2 < (insOf (l.drop 1) e).length := by omega
      obtain ⟨g, e1⟩ := hins (j - 2) hj'
      have hm := coms_at (ins := insOf (l.drop 1) e) (e - 1) hcm (j - 2) (by omega) hj' (by omega)
      have e2 : l[j - 2 + 2] = l[j] := by congr 1; omega
      rw [e1, e2] at hm
      exact txt_eq (l := [44]) hm
  obtain ⟨p, hp⟩ := hs
  rw [h] at hp
  cases hp

theorem rp_le (L : List Tok) (h : 0 ≤ (rpRes L).2) : (rpRes L).2.toNat ≤ L.length ∧ (rpRes L).1.length ≤ L.length := by
  rcases cl_ways L 0 with hn | ⟨e, he, -, hel⟩
  · unfold rpRes at h; rw [hn, if_pos (by omega)] at h; simp at h
  · have hl := evs_len (insOf L e) (insOf L e).length
    have hi := ins_len hel
    have hrp : rpRes L = (if 0 < (insOf L e).length ∧ (insOf L e).length % 2 = 0 then ([], -1) else (if coms (insOf L e) (insOf L e).length = true then (evs (insOf L e) (insOf L e).length, (e : Int) + 1) else ([], -1))) := by
      unfold rpRes
      rw [he, if_neg (by omega)]
      rfl
    rw [hrp] at h ⊢
    split at h
    · simp at h
    · rename_i h1
      rw [if_neg h1]
      split at h
      · rename_i h2
        rw [if_pos h2]
        show ((e : Int) + 1).toNat ≤ _ ∧ _
        exact ⟨by omega, by show (evs _ _).length ≤ _; omega⟩
      · simp at h
theorem of_rpno {l : List Tok} (h : toksOk l = true) (h0 : 0 < l.length) (ho : opens2 l = true) (hn : (rpRes (l.drop 1)).2 < 0) : macOf l = (zeroMac, false) := by
  have hT := (toksOk_facts h).2
  cases hp : parsOf l with
  | none => exact of_pno h h0 ho hp
  | some p =>
    obtain ⟨ps, b⟩ := p
    obtain ⟨e, h3, _⟩ := rp_some hT ho hp
    rw [e] at hn
    have : (b : Int) - 1 < 0 := hn
    omega
theorem of_rp {l : List Tok} (h : toksOk l = true) (h0 : 0 < l.length) (ho : opens2 l = true) (hn : 0 ≤ (rpRes (l.drop 1)).2) : macOf l = macChk ⟨l[0].text, true, (rpRes (l.drop 1)).1, bodyFrom l (1 + (rpRes (l.drop 1)).2.toNat)⟩ := by
  have hT := (toksOk_facts h).2
  cases hp : parsOf l with
  | none => rw [of_pno h h0 ho hp, chk_no (rp_none_of hT ho hp hn _ _)]
  | some p =>
    obtain ⟨ps, b⟩ := p
    obtain ⟨e, h3, _⟩ := rp_some hT ho hp
    rw [of_pars h h0 ho hp, e]
    show _ = macChk ⟨l[0].text, true, ps, bodyFrom l (1 + ((b : Int) - 1).toNat)⟩
    rw [show 1 + ((b : Int) - 1).toNat = b by omega]
theorem bodyFrom_drop (l : List Tok) (j k : Nat) : bodyFrom (l.drop j) k = bodyFrom l (j + k) := by unfold bodyFrom; rw [List.drop_drop]

end Go.Proofs.Ytdnjpjiepnhhhab

/- Parts of slices, and slices behind other ones. -/
namespace Go.Proofs.Ytdnjpjiepnhhhab
open Go.RowKit

theorem slice_drop {α : Type} {S : Shape α} {w : World} {a : Option Addr} {len cap : Nat} {l : List α} {fp : List Nat} (i : Nat) (hi : i ≤ l.length) (H : (sSlice S).R w [.slice a len cap] l fp) :
    ∃ fp', (sSlice S).R w [.slice (if cap = i then a else a.map (·.add (i * S.m))) (len - i) (cap - i)] (l.drop i) fp' ∧ ∀ b ∈ fp', b ∈ fp := by
  obtain ⟨a', cap', hv, hc, hm, h⟩ := H
  simp only [List.cons.injEq, Value.slice.injEq, and_true] at hv
  obtain ⟨rfl, rfl, rfl⟩ := hv
  have hl : (l.drop i).length = l.length - i := by simp
  by_cases h0 : i = l.length
  · refine ⟨[], ⟨_, _, by rw [hl], by rw [hl]; omega, by omega, .inl ⟨?_, rfl⟩⟩, by simp⟩
    subst h0; simp
  · rcases h with ⟨rfl, _⟩ | ⟨_, b, off, fps, ha, rfl, hb, he⟩
    · simp at hi; simp at h0; omega
    · subst ha
      refine ⟨b :: (List.range (l.length - i)).flatMap fun j => fps (i + j), ⟨_, _, by rw [hl], by rw [hl]; omega, by omega, .inr ⟨by omega, b, off + i * S.m, fun j => fps (i + j), ?_, by rw [hl], hb, fun j hj => ?_⟩⟩, ?_⟩
      · rw [if_neg (by omega), Option.map_some, Addr.add_lit]
      · rw [hl] at hj
        obtain ⟨es, h1, h2⟩ := he (i + j) (by omega)
        refine ⟨es, ⟨h1.1, fun x hx => ?_⟩, by rw [List.getElem_drop]; exact h2⟩
        rw [← h1.2 x hx]
        congr 2
        rw [Nat.add_mul]; omega
      · intro x hx
        rcases List.mem_cons.1 hx with rfl | hx
        · simp
        · obtain ⟨j, hj, hx⟩ := List.mem_flatMap.1 hx
          refine List.mem_cons_of_mem _ (List.mem_flatMap.2 ⟨i + j, ?_, hx⟩)
          simp only [List.mem_range] at hj ⊢
          omega

/-- append(s, texts...), the texts a row of the call's own. -/
theorem wp_append_strs {w0 : World} {ops : Array Oper} {rest : List Oper} {o : Oper} {a : Act} {Q : Exit → Act → World → Prop} (hg : o.guard = none) (s y : Operand)
    (ho : o.op = .call { callee := .builtin .append, args := #[s, y], argTypes := #[32, 32] })
    (base B : Nat) (v u : Value) (L M : List ByteArray) (hs : a.eval s = v) (hown : w0.ownsRow base 9 1 v L.length (L.map Value.string)) (hy : a.eval y = u) (HM : w0.ownsRow B 9 1 u M.length (M.map Value.string))
    (h63 : L.length + M.length ≤ 1000000) (hbase : base ≤ w0.heap.size)
    (h : ∀ v' w', w'.ownsRow base 9 1 v' (L ++ M).length ((L ++ M).map Value.string) → w0.grownBy w' v.ownBlock → wpList Try.prog ops Q rest (a.put o.dst v') w') : wpList Try.prog ops Q (o :: rest) a w0 := by
  obtain ⟨i, hi, hz0, hz1, hz2⟩ := info_parts ti27.2
  rcases HM.2 with ⟨rfl, h0⟩ | ⟨g, cap, cur, rfl, _⟩
  · have hM : M = [] := by simpa using h0
    subst hM
    refine wpList_append_own_none hg s y 32 ho base 9 i 1 ti27.1 hi v L.length (L.map Value.string) hs hown hy ?_
    exact h v w0 (by simpa using hown) ⟨rfl, rfl, rfl, Nat.le_refl _, fun _ _ _ => rfl⟩
  · have hat := fun j hj => HM.cellAt j hj
    refine wpList_append_own _ hg s y 32 ho base 9 i _ 1 16 ti27.1 hi hz0 hz1 hz2 rfl (by decide) v L.length (L.map Value.string) hs hown ⟨g, 0, none⟩ M.length cap (M.map Value.string) hy (by simp) ?_ ?_ (by unfold maxLen; omega) (by omega) hbase fun v' w' h1 h2 _ => h v' w' ?_ h2
    · intro j x hj
      have hj' : j < M.length := by have := (List.getElem?_eq_some_iff.1 hj).1; simpa using this
      rw [Addr.add_lit, Nat.zero_add]
      exact (hat j (by omega)).trans hj
    · intro x hx
      obtain ⟨s, _, rfl⟩ := List.mem_map.1 hx
      rfl
    · simpa using h1

/-- A literal's row. -/
theorem lit_own (w : World) (e : TypeId) (L : List Value) (hL : L.length ≤ 1000000) :
    (w.alloc (.cells L.toArray e)).ownsRow w.heap.size e 1 (.slice (some ⟨w.heap.size, 0, none⟩) L.length L.length) L.length L :=
  ⟨by simp, .inr ⟨w.heap.size, L.length, L.toArray, rfl, Nat.le_refl _, by show (w.heap.push _)[w.heap.size]? = _; simp, Nat.le_refl _, by unfold maxLen; omega, by simp, by simp⟩⟩

end Go.Proofs.Ytdnjpjiepnhhhab

/- MacroOf of the program. (Made by gen_mac14.py.) -/
namespace Go.Proofs.Ytdnjpjiepnhhhab
open Go.RowKit
end Go.Proofs.Ytdnjpjiepnhhhab

/- MacroOf of both, as the exact law calls them. -/
namespace Go.Proofs.Ytdnjpjiepnhhhab
open Go.RowKit

theorem wtTokenS_len {l : List Tok} (h : wtTokenS l ≤ 1048576) : l.length ≤ 1048576 := by unfold wtTokenS at h; omega
theorem wtTokenS_hid {l : List Tok} (h : wtTokenS l ≤ 1048576) : ∀ k, (hk : k < l.length) → l[k].hidden.length ≤ 2000000 := fun k hk => by
  have h1 := wsum_at wtToken l k hk
  unfold wtTokenS at h
  have h2 : wtToken l[k] = l[k].text.size + (l[k].hidden.length + (l[k].hidden.map (·.size)).sum) := rfl
  omega
theorem cnt_bare : ∀ {l : List Tok}, (∀ t ∈ l, t.hidden = []) → cntTokenS l = 3 * l.length
  | [], _ => rfl
  | t :: l, h => by
    have ih := cnt_bare (l := l) (fun t ht => h t (by simp [ht]))
    have h1 : cntTokenS (t :: l) = cntToken t + cntTokenS l := by unfold cntTokenS cntAll; simp
    have h2 : cntToken t = 3 + t.hidden.length := rfl
    rw [h1, ih, h2, h t (by simp)]
    simp; omega
theorem cntTokenS_le : ∀ l : List Tok, cntTokenS l ≤ 3 * wtTokenS l
  | [] => Nat.zero_le _
  | t :: l => by
    have ih := cntTokenS_le l
    have h1 : cntTokenS (t :: l) = cntToken t + cntTokenS l := by unfold cntTokenS cntAll; simp
    have h2 : cntToken t = 3 + t.hidden.length := rfl
    have h3 : wtTokenS (t :: l) = 1 + wtToken t + wtTokenS l := by unfold wtTokenS; simp; omega
    have h4 : wtToken t = t.text.size + (t.hidden.length + (t.hidden.map (·.size)).sum) := rfl
    omega
theorem cntMacro_le (x : DMacro) : cntMacro x ≤ 2 + 3 * wtMacro x := by
  have h1 := cntTokenS_le x.body
  have h2 : wtMacro x = x.name.size + (x.params.length + (x.params.map (·.size)).sum) + wtTokenS x.body := rfl
  have h3 : cntMacro x = 2 + x.params.length + cntTokenS x.body := rfl
  omega
theorem cntVMacro_le (x : DMacro) : cntVMacro x ≤ 3 * wtMacro x := by
  have h1 := cntTokenS_le x.body
  have h2 : wtMacro x = x.name.size + (x.params.length + (x.params.map (·.size)).sum) + wtTokenS x.body := rfl
  have h3 : cntVMacro x = x.params.length + cntTokenS x.body := rfl
  omega
theorem cntMacroS_le : ∀ l : List DMacro, cntMacroS l ≤ 3 * wtMacroS l
  | [] => Nat.zero_le _
  | m :: l => by
    have ih := cntMacroS_le l
    have h1 : cntMacroS (m :: l) = cntMacro m + cntMacroS l := by unfold cntMacroS cntAll; simp
    have h2 := cntMacro_le m
    have h3 : wtMacroS (m :: l) = 1 + wtMacro m + wtMacroS l := by unfold wtMacroS; simp; omega
    omega
theorem macOk_cnt {m : DMacro} (h : macOk m = true) : cntVMacro m ≤ 64 := by
  obtain ⟨⟨h1, h2, h3, h4, h5⟩, h6, h7⟩ := macOk_facts h
  have := cnt_bare (l := m.body) (fun t ht => by
    obtain ⟨k, hk, rfl⟩ := List.getElem_of_mem ht
    exact (bodOk_facts hk (h7 k hk)).2.1)
  unfold cntVMacro
  omega
theorem MacroOf_cnt (l : List Tok) : cntVMacro (macOf l).1 ≤ 1000 := by
  rcases h : macOf l with ⟨m, ok⟩
  cases ok
  · have := macOf_no h
    subst this
    show cntVMacro zeroMac ≤ 1000
    decide
  · have := macOk_cnt (macOf_ok h)
    show cntVMacro m ≤ 1000
    omega
theorem spec_MacroOf_w (v : Value) (l : List Tok) (fp : List Nat) (w : World) (hw : wtTokenS l ≤ 1048576) (H : (sSlice sTok).R w [v] l fp) :
    Calls Try.prog 71 #[v] w (MOf l w) := spec_MacroOf v l fp w (wtTokenS_len hw) (wtTokenS_hid hw) H
end Go.Proofs.Ytdnjpjiepnhhhab

/- Undefine of both, as the exact law calls them. -/
namespace Go.Proofs.Ytdnjpjiepnhhhab
open Go.RowKit

theorem spec_Undefine_w (v : Value) (l : List DMacro) (fp : List Nat) (nm : ByteArray) (w : World) (hw : wtMacroS l ≤ 1048576) (H : (sSlice sMacro).R w [v] l fp) (hok : okStr nm) :
    Calls Try.prog 19 #[v, .string nm] w (RetTab (unDef l nm) w) := spec_Undefine v l nm fp w (wtMacroS_sm hw).1 (wtMacroS_sm hw).2 H
theorem mine_ret {l : List DMacro} {w : World} {e : Ending} {w' : World} (h : MineTab l w e w') : RetOwn l w e w' := by
  obtain ⟨v, L, he, hE, hD, hO, hb⟩ := h
  obtain ⟨fp, h1, -, h3⟩ := slice_of_row hE.row fun x hx => ⟨hE.len x hx, hE.el x hx⟩
  refine ⟨v, fp, he, by rw [← hD]; exact h1, h3 hO fun g hg hm => ?_, hb⟩
  obtain ⟨x, hx, hb'⟩ := List.mem_flatMap.1 hm
  exact hE.ap hx hb' hg
theorem impl_Undefine_w (v : Value) (l : List DMacro) (fp : List Nat) (nm : ByteArray) (w : World) (hw : wtMacroS l ≤ 1048576) (H : (sSlice sMacro).R w [v] l fp) (hok : okStr nm) :
    Calls Try.prog 18 #[v, .string nm] w (RetOwn (unDef l nm) w) := by
  by_cases hl : l.length ≤ 1000000
  · exact (impl_Undefine v l nm fp w hl (wtMacroS_sm hw).2 H).mono fun _ _ h => mine_ret h
  · -- no table is so long
    have HT := Lib.hid (impl_TableValid v l fp w H)
    have ht : ¬ tabOk l = true := fun h => by have := (tabOk_at h).1; omega
    have HU : Hid (unDef l nm = []) := by show _ = _; unfold unDef; rw [if_neg ht]
    rw [Bool.eq_false_iff.2 ht] at HT
    clear ht hl H hw
    go_enter Try.func18, Try.ntmps18
    go_wp2_with fail
    refine HT.out.mono ?_
    rintro e w2 ⟨rfl, hb⟩
    go_wp2
    go_ret
    exact ⟨_, [], rfl, by rw [HU.out]; exact slice_empty sMacro _ none 0 (by simp), Own.nil _ _, hb⟩
theorem cntMacroS_tab : ∀ {l : List DMacro}, (∀ m ∈ l, macOk m = true) → cntMacroS l ≤ 66 * l.length
  | [], _ => Nat.le_refl _
  | m :: l, h => by
    have ih := cntMacroS_tab (l := l) (fun m hm => h m (by simp [hm]))
    have h1 : cntMacroS (m :: l) = cntMacro m + cntMacroS l := by unfold cntMacroS cntAll; simp
    have h2 := macOk_cnt (h m (by simp))
    have h3 : cntMacro m = 2 + cntVMacro m := by
      show 2 + m.params.length + cntTokenS m.body = 2 + (m.params.length + cntTokenS m.body)
      omega
    rw [h1, List.length_cons]
    omega
theorem tab_all {l : List DMacro} (h : tabOk l = true) : ∀ m ∈ l, macOk m = true := fun m hm => by
  obtain ⟨j, hj, rfl⟩ := List.getElem_of_mem hm
  have := (tabOk_at h).2 j hj
  unfold tabAt at this
  rw [dif_pos hj] at this
  exact (Bool.and_eq_true_iff.1 this).1
theorem Undefine_cnt (l : List DMacro) (nm : ByteArray) : cntMacroS (unDef l nm) ≤ 1000 := by
  unfold unDef
  by_cases h : tabOk l = true
  · rw [if_pos h]
    have h1 := cntMacroS_tab (l := l.filter (keepN nm)) (fun m hm => tab_all h m (List.mem_filter.1 hm).1)
    have h2 := List.length_filter_le (keepN nm) l
    have h3 := (tabOk_at h).1
    omega
  · rw [if_neg h]
    show cntMacroS [] ≤ 1000
    exact Nat.zero_le _

end Go.Proofs.Ytdnjpjiepnhhhab
