/- Texts that the proof of U stands on, in one file. -/
import Derived.Test.YtiaiggjfepoahaaZU11
import Derived.Test.YtiaiggjfepoahaaZU2
import Derived.Test.YtiaiggjfepoahaaZU4
import Derived.Test.YtiaiggjfepoahaaZU5
import Derived.Test.YtiaiggjfepoahaaZU6
import Derived.Test.YtiaiggjfepoahaaZU9
import Derived.Deep.Cut
import Derived.Test.YtiaiggjfepoahaaZU8
import Derived.Test.YtiaiggjfepoahaaZU3
set_option linter.unusedVariables false
set_option linter.unusedSimpArgs false
/- Of the model: a mark between two values. (Made by gen_val5.py.) -/
namespace Go.Proofs.Ytiaiggjfepoahaa
open Go.RowKit

theorem rank_ways {s : List UInt8} (h : rankT s ≠ 0) : s = [43] ∨ s = [45] ∨ s = [42] ∨ s = [47] ∨ s = [37] ∨ s = [61, 61] ∨ s = [33, 61] ∨ s = [60] ∨ s = [62] ∨ s = [60, 61] ∨ s = [62, 61] ∨ s = [38, 38] ∨ s = [124, 124] := by
  unfold rankT at h
  split at h
  · rename_i h1; simp [h1]
  split at h
  · rename_i h1; simp [h1]
  split at h
  · rename_i h1; rcases h1 with h1 | h1 <;> simp [h1]
  split at h
  · rename_i h1; rcases h1 with h1 | h1 | h1 | h1 <;> simp [h1]
  split at h
  · rename_i h1; rcases h1 with h1 | h1 <;> simp [h1]
  split at h
  · rename_i h1; rcases h1 with h1 | h1 | h1 <;> simp [h1]
  · exact absurd rfl h
theorem app0 {a b : Int} (ha : inR a = true) (hb : inR b = true) : applyM [43] a b = if inR (a + b) = true then (a + b, 0) else (0, 3) := by
  have e : opM [43] a b = a + b := rfl
  unfold applyM
  rw [if_neg (by rw [ha, hb]; decide), if_neg (fun h => absurd h.1 (by decide)), e]
theorem app1 {a b : Int} (ha : inR a = true) (hb : inR b = true) : applyM [45] a b = if inR (a - b) = true then (a - b, 0) else (0, 3) := by
  have e : opM [45] a b = a - b := rfl
  unfold applyM
  rw [if_neg (by rw [ha, hb]; decide), if_neg (fun h => absurd h.1 (by decide)), e]
theorem app2 {a b : Int} (ha : inR a = true) (hb : inR b = true) : applyM [42] a b = if inR (a * b) = true then (a * b, 0) else (0, 3) := by
  have e : opM [42] a b = a * b := rfl
  unfold applyM
  rw [if_neg (by rw [ha, hb]; decide), if_neg (fun h => absurd h.1 (by decide)), e]
theorem app3 {a b : Int} (ha : inR a = true) (hb : inR b = true) (h0 : b ≠ 0) : applyM [47] a b = if inR (a.tdiv b) = true then (a.tdiv b, 0) else (0, 3) := by
  have e : opM [47] a b = a.tdiv b := rfl
  unfold applyM
  rw [if_neg (by rw [ha, hb]; decide), if_neg (fun h => h0 h.2), e]
theorem app4 {a b : Int} (ha : inR a = true) (hb : inR b = true) (h0 : b ≠ 0) : applyM [37] a b = if inR (a.tmod b) = true then (a.tmod b, 0) else (0, 3) := by
  have e : opM [37] a b = a.tmod b := rfl
  unfold applyM
  rw [if_neg (by rw [ha, hb]; decide), if_neg (fun h => h0 h.2), e]
theorem app5 {a b : Int} (ha : inR a = true) (hb : inR b = true) : applyM [61, 61] a b = if inR (bit1 (decide (a = b))) = true then (bit1 (decide (a = b)), 0) else (0, 3) := by
  have e : opM [61, 61] a b = bit1 (decide (a = b)) := rfl
  unfold applyM
  rw [if_neg (by rw [ha, hb]; decide), if_neg (fun h => absurd h.1 (by decide)), e]
theorem app6 {a b : Int} (ha : inR a = true) (hb : inR b = true) : applyM [33, 61] a b = if inR (bit1 (decide (a ≠ b))) = true then (bit1 (decide (a ≠ b)), 0) else (0, 3) := by
  have e : opM [33, 61] a b = bit1 (decide (a ≠ b)) := rfl
  unfold applyM
  rw [if_neg (by rw [ha, hb]; decide), if_neg (fun h => absurd h.1 (by decide)), e]
theorem app7 {a b : Int} (ha : inR a = true) (hb : inR b = true) : applyM [60] a b = if inR (bit1 (decide (a < b))) = true then (bit1 (decide (a < b)), 0) else (0, 3) := by
  have e : opM [60] a b = bit1 (decide (a < b)) := rfl
  unfold applyM
  rw [if_neg (by rw [ha, hb]; decide), if_neg (fun h => absurd h.1 (by decide)), e]
theorem app8 {a b : Int} (ha : inR a = true) (hb : inR b = true) : applyM [62] a b = if inR (bit1 (decide (b < a))) = true then (bit1 (decide (b < a)), 0) else (0, 3) := by
  have e : opM [62] a b = bit1 (decide (b < a)) := rfl
  unfold applyM
  rw [if_neg (by rw [ha, hb]; decide), if_neg (fun h => absurd h.1 (by decide)), e]
theorem app9 {a b : Int} (ha : inR a = true) (hb : inR b = true) : applyM [60, 61] a b = if inR (bit1 (decide (a ≤ b))) = true then (bit1 (decide (a ≤ b)), 0) else (0, 3) := by
  have e : opM [60, 61] a b = bit1 (decide (a ≤ b)) := rfl
  unfold applyM
  rw [if_neg (by rw [ha, hb]; decide), if_neg (fun h => absurd h.1 (by decide)), e]
theorem app10 {a b : Int} (ha : inR a = true) (hb : inR b = true) : applyM [62, 61] a b = if inR (bit1 (decide (b ≤ a))) = true then (bit1 (decide (b ≤ a)), 0) else (0, 3) := by
  have e : opM [62, 61] a b = bit1 (decide (b ≤ a)) := rfl
  unfold applyM
  rw [if_neg (by rw [ha, hb]; decide), if_neg (fun h => absurd h.1 (by decide)), e]
theorem app11 {a b : Int} (ha : inR a = true) (hb : inR b = true) : applyM [38, 38] a b = if inR (bit1 (decide (a ≠ 0) && decide (b ≠ 0))) = true then (bit1 (decide (a ≠ 0) && decide (b ≠ 0)), 0) else (0, 3) := by
  have e : opM [38, 38] a b = bit1 (decide (a ≠ 0) && decide (b ≠ 0)) := rfl
  unfold applyM
  rw [if_neg (by rw [ha, hb]; decide), if_neg (fun h => absurd h.1 (by decide)), e]
theorem app12 {a b : Int} (ha : inR a = true) (hb : inR b = true) : applyM [124, 124] a b = if inR (bit1 (decide (a ≠ 0) || decide (b ≠ 0))) = true then (bit1 (decide (a ≠ 0) || decide (b ≠ 0)), 0) else (0, 3) := by
  have e : opM [124, 124] a b = bit1 (decide (a ≠ 0) || decide (b ≠ 0)) := rfl
  unfold applyM
  rw [if_neg (by rw [ha, hb]; decide), if_neg (fun h => absurd h.1 (by decide)), e]
theorem app3z {a b : Int} (ha : inR a = true) (hb : inR b = true) (h0 : b = 0) : applyM [47] a b = (0, 2) := by
  unfold applyM
  rw [if_neg (by rw [ha, hb]; decide), if_pos ⟨by decide, h0⟩]
theorem app4z {a b : Int} (ha : inR a = true) (hb : inR b = true) (h0 : b = 0) : applyM [37] a b = (0, 2) := by
  unfold applyM
  rw [if_neg (by rw [ha, hb]; decide), if_pos ⟨by decide, h0⟩]
theorem mul_small {a b : Int} (ha : -1000000 ≤ a ∧ a ≤ 1000000) (hb : -1000000 ≤ b ∧ b ≤ 1000000) : -1000000000000 ≤ a * b ∧ a * b ≤ 1000000000000 := by
  have h1 : (a * b).natAbs ≤ 1000000 * 1000000 := by
    rw [Int.natAbs_mul]
    exact Nat.mul_le_mul (by omega) (by omega)
  omega
theorem quo_small {a b : Int} (ha : -1000000 ≤ a ∧ a ≤ 1000000) (hb : -1000000 ≤ b ∧ b ≤ 1000000) (h0 : b ≠ 0) : -1000000 ≤ a.tdiv b ∧ a.tdiv b ≤ 1000000 := by
  have h1 : (a.tdiv b).natAbs ≤ 1000000 := by
    rw [Int.natAbs_tdiv]
    exact Nat.le_trans (Nat.div_le_self _ _) (by omega)
  omega
theorem rem_small {a b : Int} (ha : -1000000 ≤ a ∧ a ≤ 1000000) (hb : -1000000 ≤ b ∧ b ≤ 1000000) (h0 : b ≠ 0) : -1000000 ≤ a.tmod b ∧ a.tmod b ≤ 1000000 := by
  have h1 : (a.tmod b).natAbs ≤ 1000000 := by
    rw [Int.natAbs_tmod]
    exact Nat.le_trans (Nat.mod_le _ _) (by omega)
  omega
theorem app_rank {s : List UInt8} {a b : Int} (h : rankT s = 0) : applyM s a b = (0, 1) := by unfold applyM; rw [if_pos (.inl h)]
theorem app_a {s : List UInt8} {a b : Int} (h : inR a = false) : applyM s a b = (0, 1) := by unfold applyM; rw [if_pos (.inr (.inl h))]
theorem app_b {s : List UInt8} {a b : Int} (h : inR b = false) : applyM s a b = (0, 1) := by unfold applyM; rw [if_pos (.inr (.inr h))]
theorem toL_eq {x : ByteArray} {l : List UInt8} (h : x.toList = l) : x = ⟨l.toArray⟩ := by
  rw [ByteArray.toList_eq] at h
  subst h
  simp
def AppOf (s : List UInt8) (a b : Int) (w : World) (e : Ending) (w' : World) : Prop := e = .returned (.tuple #[.int .i64 (applyM s a b).1, .int .i64 (applyM s a b).2]) ∧ Below w.heap.size w w'
theorem app_ret {s : List UInt8} {a b n c : Int} {w w' : World} (h : applyM s a b = (n, c)) (hb : Below w.heap.size w w') : AppOf s a b w (.returned (.tuple #[.int .i64 n, .int .i64 c])) w' := ⟨by rw [h], hb⟩

set_option maxHeartbeats 16000000 in
set_option maxRecDepth 100000 in
theorem spec_ApplyMark (s : ByteArray) (a b : Int) (w : World) (hs : s.size ≤ maxLen) (hra : okInt a) (hrb : okInt b) :
    Calls Try.prog 8 #[.string s, .int .i64 a, .int .i64 b] w (AppOf s.toList a b w) := by
  have HRK := Lib.hid (spec_l12Rank [.int .i64 4, .string s, .bool false, .slice none 0 0] ⟨4, s, false, []⟩ [] w ⟨_, rfl, (show okInt 4 from ⟨by decide, by decide⟩), hs, slice_empty sStr _ _ 0 (by simp)⟩)
  have HIA := Lib.hid (fun (Q : World) => spec_l1In a (-1000000) 1000000 Q)
  have HIB := Lib.hid (fun (Q : World) => spec_l1In b (-1000000) 1000000 Q)
  rw [show rankM ⟨4, s, false, []⟩ = rankT s.toList from rfl] at HRK
  rw [show (decide (-1000000 ≤ a) && decide (a ≤ 1000000)) = inR a from rfl] at HIA
  rw [show (decide (-1000000 ≤ b) && decide (b ≤ 1000000)) = inR b from rfl] at HIB
  go_enter Try.func8, Try.ntmps8
  by_cases hrk : rankT s.toList = 0
  · have HF := Lib.hid (app_rank (a := a) (b := b) hrk)
    rw [hrk] at HRK
    clear hrk
    go_wp2_with fail
    refine HRK.out.mono ?_
    rintro e w2 ⟨rfl, hb2⟩
    go_wp2
    go_ret2
    exact app_ret HF.out hb2
  have HW := Lib.hid (rank_ways hrk)
  obtain ⟨rk, HK⟩ : ∃ rk : Nat, Hid (rk = rankT s.toList) := ⟨_, Lib.hid rfl⟩
  rw [show rankT s.toList = rk from HK.out.symm] at HRK hrk
  have hrk2 : ((rk : Int) == 0) = false := by simp; omega
  go_wp2_with fail
  refine HRK.out.mono ?_
  rintro e w2 ⟨rfl, hb2⟩
  cases ha : inR a
  · have HF := Lib.hid (app_a (s := s.toList) (b := b) ha)
    rw [ha] at HIA
    clear ha
    go_wp2_with fail
    refine (HIA.out _).mono ?_
    rintro e w3 ⟨rfl, hb3⟩
    go_wp2
    go_ret2
    exact app_ret HF.out (hb2.trans (hb3.mono hb2.size))
  rw [ha] at HIA
  have HA1 := Lib.hid ha
  clear ha
  go_wp2_with fail
  refine (HIA.out _).mono ?_
  rintro e w3 ⟨rfl, hb3⟩
  have hB3 := hb2.trans (hb3.mono hb2.size)
  cases hbb : inR b
  · have HF := Lib.hid (app_b (s := s.toList) (a := a) hbb)
    rw [hbb] at HIB
    clear hbb
    go_wp2_with fail
    refine (HIB.out _).mono ?_
    rintro e w4 ⟨rfl, hb4⟩
    go_wp2
    go_ret2
    exact app_ret HF.out (hB3.trans (hb4.mono hB3.size))
  rw [hbb] at HIB
  have HB1 := Lib.hid hbb
  clear hbb
  go_wp2_with fail
  refine (HIB.out _).mono ?_
  rintro e w4 ⟨rfl, hb4⟩
  have hB4 := hB3.trans (hb4.mono hB3.size)
  clear hb2 hb3 hb4 HRK HIA HIB hrk hrk2 hB3
  have hai := inR_iff.1 HA1.out
  have hbi := inR_iff.1 HB1.out
  clear hra hrb

  rcases HW.out with h | h | h | h | h | h | h | h | h | h | h | h | h
  · have hs2 := toL_eq h
    subst hs2
    clear h HW HK hs
    have HF := Lib.hid (app0 HA1.out HB1.out)
    have HIN := Lib.hid (fun (Q : World) => spec_l1In (a + b) (-1000000) 1000000 Q)
    rw [show (decide (-1000000 ≤ a + b) && decide (a + b ≤ 1000000)) = inR (a + b) from rfl] at HIN
    cases hin : inR (a + b)
    · have HG : Hid (applyM [43] a b = (0, 3)) := by show _ = _; rw [HF.out, hin]; rfl
      rw [hin] at HIN
      clear hin
      go_wp2_with fail
      refine (HIN.out _).mono ?_
      rintro e w6 ⟨rfl, hb6⟩
      have hB6 := hB4.trans (hb6.mono hB4.size)
      go_wp2
      go_ret2
      exact app_ret (by rw [ByteArray.toList_eq]; exact HG.out) hB6
    · have HG : Hid (applyM [43] a b = (a + b, 0)) := by show _ = _; rw [HF.out, hin]; rfl
      rw [hin] at HIN
      clear hin
      go_wp2_with fail
      refine (HIN.out _).mono ?_
      rintro e w6 ⟨rfl, hb6⟩
      have hB6 := hB4.trans (hb6.mono hB4.size)
      go_wp2
      go_ret2
      exact app_ret (by rw [ByteArray.toList_eq]; exact HG.out) hB6
  · have hs2 := toL_eq h
    subst hs2
    clear h HW HK hs
    have HF := Lib.hid (app1 HA1.out HB1.out)
    have HIN := Lib.hid (fun (Q : World) => spec_l1In (a - b) (-1000000) 1000000 Q)
    rw [show (decide (-1000000 ≤ a - b) && decide (a - b ≤ 1000000)) = inR (a - b) from rfl] at HIN
    cases hin : inR (a - b)
    · have HG : Hid (applyM [45] a b = (0, 3)) := by show _ = _; rw [HF.out, hin]; rfl
      rw [hin] at HIN
      clear hin
      go_wp2_with fail
      refine (HIN.out _).mono ?_
      rintro e w6 ⟨rfl, hb6⟩
      have hB6 := hB4.trans (hb6.mono hB4.size)
      go_wp2
      go_ret2
      exact app_ret (by rw [ByteArray.toList_eq]; exact HG.out) hB6
    · have HG : Hid (applyM [45] a b = (a - b, 0)) := by show _ = _; rw [HF.out, hin]; rfl
      rw [hin] at HIN
      clear hin
      go_wp2_with fail
      refine (HIN.out _).mono ?_
      rintro e w6 ⟨rfl, hb6⟩
      have hB6 := hB4.trans (hb6.mono hB4.size)
      go_wp2
      go_ret2
      exact app_ret (by rw [ByteArray.toList_eq]; exact HG.out) hB6
  · have hs2 := toL_eq h
    subst hs2
    clear h HW HK hs
    have HF := Lib.hid (app2 HA1.out HB1.out)
    have hm1 : -1000000000000 ≤ a * b ∧ a * b ≤ 1000000000000 := mul_small hai hbi
    have HIN := Lib.hid (fun (Q : World) => spec_l1In (a * b) (-1000000) 1000000 Q)
    rw [show (decide (-1000000 ≤ a * b) && decide (a * b ≤ 1000000)) = inR (a * b) from rfl] at HIN
    cases hin : inR (a * b)
    · have HG : Hid (applyM [42] a b = (0, 3)) := by show _ = _; rw [HF.out, hin]; rfl
      rw [hin] at HIN
      clear hin
      go_wp2_with fail
      refine (HIN.out _).mono ?_
      rintro e w6 ⟨rfl, hb6⟩
      have hB6 := hB4.trans (hb6.mono hB4.size)
      go_wp2
      go_ret2
      exact app_ret (by rw [ByteArray.toList_eq]; exact HG.out) hB6
    · have HG : Hid (applyM [42] a b = (a * b, 0)) := by show _ = _; rw [HF.out, hin]; rfl
      rw [hin] at HIN
      clear hin
      go_wp2_with fail
      refine (HIN.out _).mono ?_
      rintro e w6 ⟨rfl, hb6⟩
      have hB6 := hB4.trans (hb6.mono hB4.size)
      go_wp2
      go_ret2
      exact app_ret (by rw [ByteArray.toList_eq]; exact HG.out) hB6
  · have hs2 := toL_eq h
    subst hs2
    clear h HW HK hs
    by_cases h0 : b = 0
    · have HG := Lib.hid (app3z HA1.out HB1.out h0)
      have e0 : (b == 0) = true := by simp [h0]
      clear h0
      go_wp2
      go_ret2
      exact app_ret (by rw [ByteArray.toList_eq]; exact HG.out) hB4
    · have HF := Lib.hid (app3 HA1.out HB1.out h0)
      have e0 : (b == 0) = false := by simp [h0]
      have hq := quo_small hai hbi h0
      have HIN := Lib.hid (fun (Q : World) => spec_l1In (a.tdiv b) (-1000000) 1000000 Q)
      rw [show (decide (-1000000 ≤ a.tdiv b) && decide (a.tdiv b ≤ 1000000)) = inR (a.tdiv b) from rfl] at HIN
      cases hin : inR (a.tdiv b)
      · have HG : Hid (applyM [47] a b = (0, 3)) := by show _ = _; rw [HF.out, hin]; rfl
        rw [hin] at HIN
        clear hin
        go_wp2_with fail
        refine (HIN.out _).mono ?_
        rintro e w6 ⟨rfl, hb6⟩
        have hB6 := hB4.trans (hb6.mono hB4.size)
        go_wp2
        go_ret2
        exact app_ret (by rw [ByteArray.toList_eq]; exact HG.out) hB6
      · have HG : Hid (applyM [47] a b = (a.tdiv b, 0)) := by show _ = _; rw [HF.out, hin]; rfl
        rw [hin] at HIN
        clear hin
        go_wp2_with fail
        refine (HIN.out _).mono ?_
        rintro e w6 ⟨rfl, hb6⟩
        have hB6 := hB4.trans (hb6.mono hB4.size)
        go_wp2
        go_ret2
        exact app_ret (by rw [ByteArray.toList_eq]; exact HG.out) hB6
  · have hs2 := toL_eq h
    subst hs2
    clear h HW HK hs
    by_cases h0 : b = 0
    · have HG := Lib.hid (app4z HA1.out HB1.out h0)
      have e0 : (b == 0) = true := by simp [h0]
      clear h0
      go_wp2
      go_ret2
      exact app_ret (by rw [ByteArray.toList_eq]; exact HG.out) hB4
    · have HF := Lib.hid (app4 HA1.out HB1.out h0)
      have e0 : (b == 0) = false := by simp [h0]
      have hq := rem_small hai hbi h0
      have HIN := Lib.hid (fun (Q : World) => spec_l1In (a.tmod b) (-1000000) 1000000 Q)
      rw [show (decide (-1000000 ≤ a.tmod b) && decide (a.tmod b ≤ 1000000)) = inR (a.tmod b) from rfl] at HIN
      cases hin : inR (a.tmod b)
      · have HG : Hid (applyM [37] a b = (0, 3)) := by show _ = _; rw [HF.out, hin]; rfl
        rw [hin] at HIN
        clear hin
        go_wp2_with fail
        refine (HIN.out _).mono ?_
        rintro e w6 ⟨rfl, hb6⟩
        have hB6 := hB4.trans (hb6.mono hB4.size)
        go_wp2
        go_ret2
        exact app_ret (by rw [ByteArray.toList_eq]; exact HG.out) hB6
      · have HG : Hid (applyM [37] a b = (a.tmod b, 0)) := by show _ = _; rw [HF.out, hin]; rfl
        rw [hin] at HIN
        clear hin
        go_wp2_with fail
        refine (HIN.out _).mono ?_
        rintro e w6 ⟨rfl, hb6⟩
        have hB6 := hB4.trans (hb6.mono hB4.size)
        go_wp2
        go_ret2
        exact app_ret (by rw [ByteArray.toList_eq]; exact HG.out) hB6
  · have hs2 := toL_eq h
    subst hs2
    clear h HW HK hs
    have HF := Lib.hid (app5 HA1.out HB1.out)
    by_cases hq : a = b
    · skip
      have hop : (decide (a = b)) = true := by simp [hq]
      have e1 : (a == b) = true := by simp [hq]
      have e2 : (a != b) = false := by simp [hq]
      have HT : Hid (applyM [61, 61] a b = (1, 0)) := by show _ = _; rw [HF.out, hop]; rfl
      clear HF hop
      go_wp2_with fail
      refine (spec_l12Truth true _).mono ?_
      rintro e w5 ⟨rfl, rfl⟩
      rw [show bit1 true = 1 from rfl]
      go_wp2_with fail
      refine (spec_l1In 1 (-1000000) 1000000 _).mono ?_
      rintro e w6 ⟨rfl, hb6⟩
      have hB6 := hB4.trans (hb6.mono hB4.size)
      go_wp2
      go_ret2
      exact app_ret (by rw [ByteArray.toList_eq]; exact HT.out) hB6
    · skip
      have hop : (decide (a = b)) = false := by simp [hq]
      have e1 : (a == b) = false := by simp [hq]
      have e2 : (a != b) = true := by simp [hq]
      have HT : Hid (applyM [61, 61] a b = (0, 0)) := by show _ = _; rw [HF.out, hop]; rfl
      clear HF hop
      go_wp2_with fail
      refine (spec_l12Truth false _).mono ?_
      rintro e w5 ⟨rfl, rfl⟩
      rw [show bit1 false = 0 from rfl]
      go_wp2_with fail
      refine (spec_l1In 0 (-1000000) 1000000 _).mono ?_
      rintro e w6 ⟨rfl, hb6⟩
      have hB6 := hB4.trans (hb6.mono hB4.size)
      go_wp2
      go_ret2
      exact app_ret (by rw [ByteArray.toList_eq]; exact HT.out) hB6
  · have hs2 := toL_eq h
    subst hs2
    clear h HW HK hs
    have HF := Lib.hid (app6 HA1.out HB1.out)
    by_cases hq : a = b
    · skip
      have hop : (decide (a ≠ b)) = false := by simp [hq]
      have e1 : (a == b) = true := by simp [hq]
      have e2 : (a != b) = false := by simp [hq]
      have HT : Hid (applyM [33, 61] a b = (0, 0)) := by show _ = _; rw [HF.out, hop]; rfl
      clear HF hop
      go_wp2_with fail
      refine (spec_l12Truth false _).mono ?_
      rintro e w5 ⟨rfl, rfl⟩
      rw [show bit1 false = 0 from rfl]
      go_wp2_with fail
      refine (spec_l1In 0 (-1000000) 1000000 _).mono ?_
      rintro e w6 ⟨rfl, hb6⟩
      have hB6 := hB4.trans (hb6.mono hB4.size)
      go_wp2
      go_ret2
      exact app_ret (by rw [ByteArray.toList_eq]; exact HT.out) hB6
    · skip
      have hop : (decide (a ≠ b)) = true := by simp [hq]
      have e1 : (a == b) = false := by simp [hq]
      have e2 : (a != b) = true := by simp [hq]
      have HT : Hid (applyM [33, 61] a b = (1, 0)) := by show _ = _; rw [HF.out, hop]; rfl
      clear HF hop
      go_wp2_with fail
      refine (spec_l12Truth true _).mono ?_
      rintro e w5 ⟨rfl, rfl⟩
      rw [show bit1 true = 1 from rfl]
      go_wp2_with fail
      refine (spec_l1In 1 (-1000000) 1000000 _).mono ?_
      rintro e w6 ⟨rfl, hb6⟩
      have hB6 := hB4.trans (hb6.mono hB4.size)
      go_wp2
      go_ret2
      exact app_ret (by rw [ByteArray.toList_eq]; exact HT.out) hB6
  · have hs2 := toL_eq h
    subst hs2
    clear h HW HK hs
    have HF := Lib.hid (app7 HA1.out HB1.out)
    by_cases hq : a < b
    · skip
      have hop : (decide (a < b)) = true := by simp [hq]
      have e1 : decide (a < b) = true := by simp [hq]
      have HT : Hid (applyM [60] a b = (1, 0)) := by show _ = _; rw [HF.out, hop]; rfl
      clear HF hop
      go_wp2_with fail
      refine (spec_l12Truth true _).mono ?_
      rintro e w5 ⟨rfl, rfl⟩
      rw [show bit1 true = 1 from rfl]
      go_wp2_with fail
      refine (spec_l1In 1 (-1000000) 1000000 _).mono ?_
      rintro e w6 ⟨rfl, hb6⟩
      have hB6 := hB4.trans (hb6.mono hB4.size)
      go_wp2
      go_ret2
      exact app_ret (by rw [ByteArray.toList_eq]; exact HT.out) hB6
    · skip
      have hop : (decide (a < b)) = false := by simp [hq]
      have e1 : decide (a < b) = false := by simp [hq]
      have HT : Hid (applyM [60] a b = (0, 0)) := by show _ = _; rw [HF.out, hop]; rfl
      clear HF hop
      go_wp2_with fail
      refine (spec_l12Truth false _).mono ?_
      rintro e w5 ⟨rfl, rfl⟩
      rw [show bit1 false = 0 from rfl]
      go_wp2_with fail
      refine (spec_l1In 0 (-1000000) 1000000 _).mono ?_
      rintro e w6 ⟨rfl, hb6⟩
      have hB6 := hB4.trans (hb6.mono hB4.size)
      go_wp2
      go_ret2
      exact app_ret (by rw [ByteArray.toList_eq]; exact HT.out) hB6
  · have hs2 := toL_eq h
    subst hs2
    clear h HW HK hs
    have HF := Lib.hid (app8 HA1.out HB1.out)
    by_cases hq : b < a
    · skip
      have hop : (decide (b < a)) = true := by simp [hq]
      have e1 : decide (b < a) = true := by simp [hq]
      have HT : Hid (applyM [62] a b = (1, 0)) := by show _ = _; rw [HF.out, hop]; rfl
      clear HF hop
      go_wp2_with fail
      refine (spec_l12Truth true _).mono ?_
      rintro e w5 ⟨rfl, rfl⟩
      rw [show bit1 true = 1 from rfl]
      go_wp2_with fail
      refine (spec_l1In 1 (-1000000) 1000000 _).mono ?_
      rintro e w6 ⟨rfl, hb6⟩
      have hB6 := hB4.trans (hb6.mono hB4.size)
      go_wp2
      go_ret2
      exact app_ret (by rw [ByteArray.toList_eq]; exact HT.out) hB6
    · skip
      have hop : (decide (b < a)) = false := by simp [hq]
      have e1 : decide (b < a) = false := by simp [hq]
      have HT : Hid (applyM [62] a b = (0, 0)) := by show _ = _; rw [HF.out, hop]; rfl
      clear HF hop
      go_wp2_with fail
      refine (spec_l12Truth false _).mono ?_
      rintro e w5 ⟨rfl, rfl⟩
      rw [show bit1 false = 0 from rfl]
      go_wp2_with fail
      refine (spec_l1In 0 (-1000000) 1000000 _).mono ?_
      rintro e w6 ⟨rfl, hb6⟩
      have hB6 := hB4.trans (hb6.mono hB4.size)
      go_wp2
      go_ret2
      exact app_ret (by rw [ByteArray.toList_eq]; exact HT.out) hB6
  · have hs2 := toL_eq h
    subst hs2
    clear h HW HK hs
    have HF := Lib.hid (app9 HA1.out HB1.out)
    by_cases hq : a ≤ b
    · skip
      have hop : (decide (a ≤ b)) = true := by simp [hq]
      have e1 : decide (a ≤ b) = true := by simp [hq]
      have HT : Hid (applyM [60, 61] a b = (1, 0)) := by show _ = _; rw [HF.out, hop]; rfl
      clear HF hop
      go_wp2_with fail
      refine (spec_l12Truth true _).mono ?_
      rintro e w5 ⟨rfl, rfl⟩
      rw [show bit1 true = 1 from rfl]
      go_wp2_with fail
      refine (spec_l1In 1 (-1000000) 1000000 _).mono ?_
      rintro e w6 ⟨rfl, hb6⟩
      have hB6 := hB4.trans (hb6.mono hB4.size)
      go_wp2
      go_ret2
      exact app_ret (by rw [ByteArray.toList_eq]; exact HT.out) hB6
    · skip
      have hop : (decide (a ≤ b)) = false := by simp [hq]
      have e1 : decide (a ≤ b) = false := by simp [hq]
      have HT : Hid (applyM [60, 61] a b = (0, 0)) := by show _ = _; rw [HF.out, hop]; rfl
      clear HF hop
      go_wp2_with fail
      refine (spec_l12Truth false _).mono ?_
      rintro e w5 ⟨rfl, rfl⟩
      rw [show bit1 false = 0 from rfl]
      go_wp2_with fail
      refine (spec_l1In 0 (-1000000) 1000000 _).mono ?_
      rintro e w6 ⟨rfl, hb6⟩
      have hB6 := hB4.trans (hb6.mono hB4.size)
      go_wp2
      go_ret2
      exact app_ret (by rw [ByteArray.toList_eq]; exact HT.out) hB6
  · have hs2 := toL_eq h
    subst hs2
    clear h HW HK hs
    have HF := Lib.hid (app10 HA1.out HB1.out)
    by_cases hq : b ≤ a
    · skip
      have hop : (decide (b ≤ a)) = true := by simp [hq]
      have e1 : decide (b ≤ a) = true := by simp [hq]
      have HT : Hid (applyM [62, 61] a b = (1, 0)) := by show _ = _; rw [HF.out, hop]; rfl
      clear HF hop
      go_wp2_with fail
      refine (spec_l12Truth true _).mono ?_
      rintro e w5 ⟨rfl, rfl⟩
      rw [show bit1 true = 1 from rfl]
      go_wp2_with fail
      refine (spec_l1In 1 (-1000000) 1000000 _).mono ?_
      rintro e w6 ⟨rfl, hb6⟩
      have hB6 := hB4.trans (hb6.mono hB4.size)
      go_wp2
      go_ret2
      exact app_ret (by rw [ByteArray.toList_eq]; exact HT.out) hB6
    · skip
      have hop : (decide (b ≤ a)) = false := by simp [hq]
      have e1 : decide (b ≤ a) = false := by simp [hq]
      have HT : Hid (applyM [62, 61] a b = (0, 0)) := by show _ = _; rw [HF.out, hop]; rfl
      clear HF hop
      go_wp2_with fail
      refine (spec_l12Truth false _).mono ?_
      rintro e w5 ⟨rfl, rfl⟩
      rw [show bit1 false = 0 from rfl]
      go_wp2_with fail
      refine (spec_l1In 0 (-1000000) 1000000 _).mono ?_
      rintro e w6 ⟨rfl, hb6⟩
      have hB6 := hB4.trans (hb6.mono hB4.size)
      go_wp2
      go_ret2
      exact app_ret (by rw [ByteArray.toList_eq]; exact HT.out) hB6
  · have hs2 := toL_eq h
    subst hs2
    clear h HW HK hs
    have HF := Lib.hid (app11 HA1.out HB1.out)
    by_cases hq : a = 0
    · by_cases hq2 : b = 0
      · skip
        have hop : (decide (a ≠ 0) && decide (b ≠ 0)) = false := by simp [hq, hq2]
        have e1 : (a != 0) = false := by simp [hq]
        have e2 : (b != 0) = false := by simp [hq2]
        have HT : Hid (applyM [38, 38] a b = (0, 0)) := by show _ = _; rw [HF.out, hop]; rfl
        clear HF hop
        go_wp2_with fail
        refine (spec_l12Truth false _).mono ?_
        rintro e w5 ⟨rfl, rfl⟩
        rw [show bit1 false = 0 from rfl]
        go_wp2_with fail
        refine (spec_l1In 0 (-1000000) 1000000 _).mono ?_
        rintro e w6 ⟨rfl, hb6⟩
        have hB6 := hB4.trans (hb6.mono hB4.size)
        go_wp2
        go_ret2
        exact app_ret (by rw [ByteArray.toList_eq]; exact HT.out) hB6
      · skip
        have hop : (decide (a ≠ 0) && decide (b ≠ 0)) = false := by simp [hq, hq2]
        have e1 : (a != 0) = false := by simp [hq]
        have e2 : (b != 0) = true := by simp [hq2]
        have HT : Hid (applyM [38, 38] a b = (0, 0)) := by show _ = _; rw [HF.out, hop]; rfl
        clear HF hop
        go_wp2_with fail
        refine (spec_l12Truth false _).mono ?_
        rintro e w5 ⟨rfl, rfl⟩
        rw [show bit1 false = 0 from rfl]
        go_wp2_with fail
        refine (spec_l1In 0 (-1000000) 1000000 _).mono ?_
        rintro e w6 ⟨rfl, hb6⟩
        have hB6 := hB4.trans (hb6.mono hB4.size)
        go_wp2
        go_ret2
        exact app_ret (by rw [ByteArray.toList_eq]; exact HT.out) hB6
    · by_cases hq2 : b = 0
      · skip
        have hop : (decide (a ≠ 0) && decide (b ≠ 0)) = false := by simp [hq, hq2]
        have e1 : (a != 0) = true := by simp [hq]
        have e2 : (b != 0) = false := by simp [hq2]
        have HT : Hid (applyM [38, 38] a b = (0, 0)) := by show _ = _; rw [HF.out, hop]; rfl
        clear HF hop
        go_wp2_with fail
        refine (spec_l12Truth false _).mono ?_
        rintro e w5 ⟨rfl, rfl⟩
        rw [show bit1 false = 0 from rfl]
        go_wp2_with fail
        refine (spec_l1In 0 (-1000000) 1000000 _).mono ?_
        rintro e w6 ⟨rfl, hb6⟩
        have hB6 := hB4.trans (hb6.mono hB4.size)
        go_wp2
        go_ret2
        exact app_ret (by rw [ByteArray.toList_eq]; exact HT.out) hB6
      · skip
        have hop : (decide (a ≠ 0) && decide (b ≠ 0)) = true := by simp [hq, hq2]
        have e1 : (a != 0) = true := by simp [hq]
        have e2 : (b != 0) = true := by simp [hq2]
        have HT : Hid (applyM [38, 38] a b = (1, 0)) := by show _ = _; rw [HF.out, hop]; rfl
        clear HF hop
        go_wp2_with fail
        refine (spec_l12Truth true _).mono ?_
        rintro e w5 ⟨rfl, rfl⟩
        rw [show bit1 true = 1 from rfl]
        go_wp2_with fail
        refine (spec_l1In 1 (-1000000) 1000000 _).mono ?_
        rintro e w6 ⟨rfl, hb6⟩
        have hB6 := hB4.trans (hb6.mono hB4.size)
        go_wp2
        go_ret2
        exact app_ret (by rw [ByteArray.toList_eq]; exact HT.out) hB6
  · have hs2 := toL_eq h
    subst hs2
    clear h HW HK hs
    have HF := Lib.hid (app12 HA1.out HB1.out)
    by_cases hq : a = 0
    · by_cases hq2 : b = 0
      · skip
        have hop : (decide (a ≠ 0) || decide (b ≠ 0)) = false := by simp [hq, hq2]
        have e1 : (a != 0) = false := by simp [hq]
        have e2 : (b != 0) = false := by simp [hq2]
        have HT : Hid (applyM [124, 124] a b = (0, 0)) := by show _ = _; rw [HF.out, hop]; rfl
        clear HF hop
        go_wp2_with fail
        refine (spec_l12Truth false _).mono ?_
        rintro e w5 ⟨rfl, rfl⟩
        rw [show bit1 false = 0 from rfl]
        go_wp2_with fail
        refine (spec_l1In 0 (-1000000) 1000000 _).mono ?_
        rintro e w6 ⟨rfl, hb6⟩
        have hB6 := hB4.trans (hb6.mono hB4.size)
        go_wp2
        go_ret2
        exact app_ret (by rw [ByteArray.toList_eq]; exact HT.out) hB6
      · skip
        have hop : (decide (a ≠ 0) || decide (b ≠ 0)) = true := by simp [hq, hq2]
        have e1 : (a != 0) = false := by simp [hq]
        have e2 : (b != 0) = true := by simp [hq2]
        have HT : Hid (applyM [124, 124] a b = (1, 0)) := by show _ = _; rw [HF.out, hop]; rfl
        clear HF hop
        go_wp2_with fail
        refine (spec_l12Truth true _).mono ?_
        rintro e w5 ⟨rfl, rfl⟩
        rw [show bit1 true = 1 from rfl]
        go_wp2_with fail
        refine (spec_l1In 1 (-1000000) 1000000 _).mono ?_
        rintro e w6 ⟨rfl, hb6⟩
        have hB6 := hB4.trans (hb6.mono hB4.size)
        go_wp2
        go_ret2
        exact app_ret (by rw [ByteArray.toList_eq]; exact HT.out) hB6
    · by_cases hq2 : b = 0
      · skip
        have hop : (decide (a ≠ 0) || decide (b ≠ 0)) = true := by simp [hq, hq2]
        have e1 : (a != 0) = true := by simp [hq]
        have e2 : (b != 0) = false := by simp [hq2]
        have HT : Hid (applyM [124, 124] a b = (1, 0)) := by show _ = _; rw [HF.out, hop]; rfl
        clear HF hop
        go_wp2_with fail
        refine (spec_l12Truth true _).mono ?_
        rintro e w5 ⟨rfl, rfl⟩
        rw [show bit1 true = 1 from rfl]
        go_wp2_with fail
        refine (spec_l1In 1 (-1000000) 1000000 _).mono ?_
        rintro e w6 ⟨rfl, hb6⟩
        have hB6 := hB4.trans (hb6.mono hB4.size)
        go_wp2
        go_ret2
        exact app_ret (by rw [ByteArray.toList_eq]; exact HT.out) hB6
      · skip
        have hop : (decide (a ≠ 0) || decide (b ≠ 0)) = true := by simp [hq, hq2]
        have e1 : (a != 0) = true := by simp [hq]
        have e2 : (b != 0) = true := by simp [hq2]
        have HT : Hid (applyM [124, 124] a b = (1, 0)) := by show _ = _; rw [HF.out, hop]; rfl
        clear HF hop
        go_wp2_with fail
        refine (spec_l12Truth true _).mono ?_
        rintro e w5 ⟨rfl, rfl⟩
        rw [show bit1 true = 1 from rfl]
        go_wp2_with fail
        refine (spec_l1In 1 (-1000000) 1000000 _).mono ?_
        rintro e w6 ⟨rfl, hb6⟩
        have hB6 := hB4.trans (hb6.mono hB4.size)
        go_wp2
        go_ret2
        exact app_ret (by rw [ByteArray.toList_eq]; exact HT.out) hB6

end Go.Proofs.Ytiaiggjfepoahaa

/- Of the program: marks between two values, ApplyMark, numbers. (Made by gen_valp1.py.) -/
namespace Go.Proofs.Ytiaiggjfepoahaa
open Go.RowKit

def marksV : List (List UInt8) := [[43], [45], [42], [47], [37], [61, 61], [33, 61], [60], [62], [60, 61], [62, 61], [38, 38], [124, 124]]
theorem rank_in : ∀ s ∈ marksV, rankT s ≠ 0 := by decide
theorem rank_none {s : List UInt8} (h : rankT s = 0) : ∀ x ∈ marksV, (s == x) = false := fun x hx => by
  cases e : (s == x)
  · rfl
  · rw [beq_iff_eq] at e
    subst e
    exact absurd h (rank_in _ hx)

set_option maxHeartbeats 8000000 in
set_option maxRecDepth 100000 in
theorem impl_strengthOf (s : ByteArray) (w : World) : Calls Try.prog 19 #[.string s] w fun e w' => e = .returned (.int .i64 (rankT s.toList : Nat)) ∧ w' = w := by
  by_cases h0 : rankT s.toList = 0
  · have HF := Lib.hid h0
    have hn := rank_none h0
    clear h0
    have n0 : (s.toList == [43]) = false := hn _ (by decide)
    have n1 : (s.toList == [45]) = false := hn _ (by decide)
    have n2 : (s.toList == [42]) = false := hn _ (by decide)
    have n3 : (s.toList == [47]) = false := hn _ (by decide)
    have n4 : (s.toList == [37]) = false := hn _ (by decide)
    have n5 : (s.toList == [61, 61]) = false := hn _ (by decide)
    have n6 : (s.toList == [33, 61]) = false := hn _ (by decide)
    have n7 : (s.toList == [60]) = false := hn _ (by decide)
    have n8 : (s.toList == [62]) = false := hn _ (by decide)
    have n9 : (s.toList == [60, 61]) = false := hn _ (by decide)
    have n10 : (s.toList == [62, 61]) = false := hn _ (by decide)
    have n11 : (s.toList == [38, 38]) = false := hn _ (by decide)
    have n12 : (s.toList == [124, 124]) = false := hn _ (by decide)
    clear hn
    go_enter Try.func19, Try.ntmps19
    go_wp2
    go_ret
    exact ⟨by rw [HF.out]; rfl, rfl⟩
  have HW := rank_ways h0
  clear h0
  rcases HW with h | h | h | h | h | h | h | h | h | h | h | h | h
  · have hs2 := toL_eq h
    subst hs2
    clear h
    go_enter Try.func19, Try.ntmps19
    go_wp2
    go_ret
    exact ⟨by rw [ByteArray.toList_eq]; rfl, rfl⟩
  · have hs2 := toL_eq h
    subst hs2
    clear h
    go_enter Try.func19, Try.ntmps19
    go_wp2
    go_ret
    exact ⟨by rw [ByteArray.toList_eq]; rfl, rfl⟩
  · have hs2 := toL_eq h
    subst hs2
    clear h
    go_enter Try.func19, Try.ntmps19
    go_wp2
    go_ret
    exact ⟨by rw [ByteArray.toList_eq]; rfl, rfl⟩
  · have hs2 := toL_eq h
    subst hs2
    clear h
    go_enter Try.func19, Try.ntmps19
    go_wp2
    go_ret
    exact ⟨by rw [ByteArray.toList_eq]; rfl, rfl⟩
  · have hs2 := toL_eq h
    subst hs2
    clear h
    go_enter Try.func19, Try.ntmps19
    go_wp2
    go_ret
    exact ⟨by rw [ByteArray.toList_eq]; rfl, rfl⟩
  · have hs2 := toL_eq h
    subst hs2
    clear h
    go_enter Try.func19, Try.ntmps19
    go_wp2
    go_ret
    exact ⟨by rw [ByteArray.toList_eq]; rfl, rfl⟩
  · have hs2 := toL_eq h
    subst hs2
    clear h
    go_enter Try.func19, Try.ntmps19
    go_wp2
    go_ret
    exact ⟨by rw [ByteArray.toList_eq]; rfl, rfl⟩
  · have hs2 := toL_eq h
    subst hs2
    clear h
    go_enter Try.func19, Try.ntmps19
    go_wp2
    go_ret
    exact ⟨by rw [ByteArray.toList_eq]; rfl, rfl⟩
  · have hs2 := toL_eq h
    subst hs2
    clear h
    go_enter Try.func19, Try.ntmps19
    go_wp2
    go_ret
    exact ⟨by rw [ByteArray.toList_eq]; rfl, rfl⟩
  · have hs2 := toL_eq h
    subst hs2
    clear h
    go_enter Try.func19, Try.ntmps19
    go_wp2
    go_ret
    exact ⟨by rw [ByteArray.toList_eq]; rfl, rfl⟩
  · have hs2 := toL_eq h
    subst hs2
    clear h
    go_enter Try.func19, Try.ntmps19
    go_wp2
    go_ret
    exact ⟨by rw [ByteArray.toList_eq]; rfl, rfl⟩
  · have hs2 := toL_eq h
    subst hs2
    clear h
    go_enter Try.func19, Try.ntmps19
    go_wp2
    go_ret
    exact ⟨by rw [ByteArray.toList_eq]; rfl, rfl⟩
  · have hs2 := toL_eq h
    subst hs2
    clear h
    go_enter Try.func19, Try.ntmps19
    go_wp2
    go_ret
    exact ⟨by rw [ByteArray.toList_eq]; rfl, rfl⟩

theorem impl_inRange (n : Int) (w : World) : Calls Try.prog 20 #[.int .i64 n] w fun e w' => e = .returned (.bool (inR n)) ∧ w' = w := by
  go_enter Try.func20, Try.ntmps20
  by_cases h1 : -1000000 ≤ n
  · by_cases h2 : n ≤ 1000000
    · have HF : Hid (inR n = true) := inR_iff.2 ⟨h1, h2⟩
      have e1 : decide (-1000000 ≤ n) = true := decide_eq_true h1
      have e2 : decide (n ≤ 1000000) = true := decide_eq_true h2
      clear h1 h2
      go_wp2
      go_ret
      exact ⟨by rw [HF.out] <;> rfl, rfl⟩
    · have HF : Hid (inR n = false) := by
        cases e : inR n
        · exact rfl
        · exact absurd (inR_iff.1 e).2 h2
      have e1 : decide (-1000000 ≤ n) = true := decide_eq_true h1
      have e2 : decide (n ≤ 1000000) = false := decide_eq_false h2
      clear h1 h2
      go_wp2
      go_ret
      exact ⟨by rw [HF.out] <;> rfl, rfl⟩
  · have HF : Hid (inR n = false) := by
      cases e : inR n
      · exact rfl
      · exact absurd (inR_iff.1 e).1 h1
    have e1 : decide (-1000000 ≤ n) = false := decide_eq_false h1
    clear h1
    go_wp2
    go_ret
    exact ⟨by rw [HF.out] <;> rfl, rfl⟩
theorem impl_truth (b : Bool) (w : World) : Calls Try.prog 36 #[.bool b] w fun e w' => e = .returned (.int .i64 (bit1 b)) ∧ w' = w := by
  cases b
  · go_enter Try.func36, Try.ntmps36
    go_wp2
    go_ret
    exact ⟨rfl, rfl⟩
  · go_enter Try.func36, Try.ntmps36
    go_wp2
    go_ret
    exact ⟨rfl, rfl⟩
/-- What holds between two values, for marks that compare or join them. -/
def holT (s : List UInt8) (a b : Int) : Bool :=
  if s = [61, 61] then decide (a = b) else if s = [33, 61] then decide (a ≠ b) else if s = [60] then decide (a < b) else if s = [62] then decide (b < a)
  else if s = [60, 61] then decide (a ≤ b) else if s = [62, 61] then decide (b ≤ a) else if s = [38, 38] then decide (a ≠ 0) && decide (b ≠ 0) else decide (a ≠ 0) || decide (b ≠ 0)
def Comp (s : List UInt8) : Prop := s = [61, 61] ∨ s = [33, 61] ∨ s = [60] ∨ s = [62] ∨ s = [60, 61] ∨ s = [62, 61] ∨ s = [38, 38] ∨ s = [124, 124]
theorem op_hol {s : List UInt8} {a b : Int} (h : Comp s) : opM s a b = bit1 (holT s a b) := by
  rcases h with h | h | h | h | h | h | h | h <;> subst h <;> rfl
theorem hol_ret {s : ByteArray} {l : List UInt8} {a b : Int} {w : World} {c : Bool} (h : s.toList = l) (hc : holT l a b = c) : (Ending.returned (.bool c) = .returned (.bool (holT s.toList a b))) ∧ w = w := ⟨by rw [h, hc], rfl⟩

set_option maxHeartbeats 8000000 in
set_option maxRecDepth 100000 in
theorem impl_holds (s : ByteArray) (a b : Int) (w : World) (h : Comp s.toList) : Calls Try.prog 37 #[.string s, .int .i64 a, .int .i64 b] w fun e w' => e = .returned (.bool (holT s.toList a b)) ∧ w' = w := by
  rcases h with h | h | h | h | h | h | h | h
  · have hs2 := toL_eq h
    subst hs2
    clear h
    by_cases hq : a = b
    · have HF : Hid (holT [61, 61] a b = true) := by show _ = _; simp [holT, hq] <;> omega
      have e1 : (a == b) = true := by simp [hq]
      clear hq
      go_enter Try.func37, Try.ntmps37
      go_wp2
      go_ret
      exact hol_ret (by rw [ByteArray.toList_eq]) HF.out
    · have HF : Hid (holT [61, 61] a b = false) := by show _ = _; simp [holT, hq] <;> omega
      have e1 : (a == b) = false := by simp [hq]
      clear hq
      go_enter Try.func37, Try.ntmps37
      go_wp2
      go_ret
      exact hol_ret (by rw [ByteArray.toList_eq]) HF.out
  · have hs2 := toL_eq h
    subst hs2
    clear h
    by_cases hq : a = b
    · have HF : Hid (holT [33, 61] a b = false) := by show _ = _; simp [holT, hq] <;> omega
      have e1 : (a != b) = false := by simp [hq]
      clear hq
      go_enter Try.func37, Try.ntmps37
      go_wp2
      go_ret
      exact hol_ret (by rw [ByteArray.toList_eq]) HF.out
    · have HF : Hid (holT [33, 61] a b = true) := by show _ = _; simp [holT, hq] <;> omega
      have e1 : (a != b) = true := by simp [hq]
      clear hq
      go_enter Try.func37, Try.ntmps37
      go_wp2
      go_ret
      exact hol_ret (by rw [ByteArray.toList_eq]) HF.out
  · have hs2 := toL_eq h
    subst hs2
    clear h
    by_cases hq : a < b
    · have HF : Hid (holT [60] a b = true) := by show _ = _; simp [holT, hq] <;> omega
      have e1 : decide (a < b) = true := by simp [hq]
      clear hq
      go_enter Try.func37, Try.ntmps37
      go_wp2
      go_ret
      exact hol_ret (by rw [ByteArray.toList_eq]) HF.out
    · have HF : Hid (holT [60] a b = false) := by show _ = _; simp [holT, hq] <;> omega
      have e1 : decide (a < b) = false := by simp [hq]
      clear hq
      go_enter Try.func37, Try.ntmps37
      go_wp2
      go_ret
      exact hol_ret (by rw [ByteArray.toList_eq]) HF.out
  · have hs2 := toL_eq h
    subst hs2
    clear h
    by_cases hq : b < a
    · have HF : Hid (holT [62] a b = true) := by show _ = _; simp [holT, hq] <;> omega
      have e1 : decide (b < a) = true := by simp [hq]
      clear hq
      go_enter Try.func37, Try.ntmps37
      go_wp2
      go_ret
      exact hol_ret (by rw [ByteArray.toList_eq]) HF.out
    · have HF : Hid (holT [62] a b = false) := by show _ = _; simp [holT, hq] <;> omega
      have e1 : decide (b < a) = false := by simp [hq]
      clear hq
      go_enter Try.func37, Try.ntmps37
      go_wp2
      go_ret
      exact hol_ret (by rw [ByteArray.toList_eq]) HF.out
  · have hs2 := toL_eq h
    subst hs2
    clear h
    by_cases hq : a ≤ b
    · have HF : Hid (holT [60, 61] a b = true) := by show _ = _; simp [holT, hq] <;> omega
      have e1 : decide (a ≤ b) = true := by simp [hq]
      clear hq
      go_enter Try.func37, Try.ntmps37
      go_wp2
      go_ret
      exact hol_ret (by rw [ByteArray.toList_eq]) HF.out
    · have HF : Hid (holT [60, 61] a b = false) := by show _ = _; simp [holT, hq] <;> omega
      have e1 : decide (a ≤ b) = false := by simp [hq]
      clear hq
      go_enter Try.func37, Try.ntmps37
      go_wp2
      go_ret
      exact hol_ret (by rw [ByteArray.toList_eq]) HF.out
  · have hs2 := toL_eq h
    subst hs2
    clear h
    by_cases hq : b ≤ a
    · have HF : Hid (holT [62, 61] a b = true) := by show _ = _; simp [holT, hq] <;> omega
      have e1 : decide (b ≤ a) = true := by simp [hq]
      clear hq
      go_enter Try.func37, Try.ntmps37
      go_wp2
      go_ret
      exact hol_ret (by rw [ByteArray.toList_eq]) HF.out
    · have HF : Hid (holT [62, 61] a b = false) := by show _ = _; simp [holT, hq] <;> omega
      have e1 : decide (b ≤ a) = false := by simp [hq]
      clear hq
      go_enter Try.func37, Try.ntmps37
      go_wp2
      go_ret
      exact hol_ret (by rw [ByteArray.toList_eq]) HF.out
  · have hs2 := toL_eq h
    subst hs2
    clear h
    by_cases hq : a = 0
    · have e1 : (a != 0) = false := by simp [hq]
      by_cases hq2 : b = 0
      · have e2 : (b != 0) = false := by simp [hq2]
        have HF : Hid (holT [38, 38] a b = false) := by show _ = _; simp [holT, hq, hq2]
        clear hq hq2
        go_enter Try.func37, Try.ntmps37
        go_wp2
        go_ret
        exact hol_ret (by rw [ByteArray.toList_eq]) HF.out
      · have e2 : (b != 0) = true := by simp [hq2]
        have HF : Hid (holT [38, 38] a b = false) := by show _ = _; simp [holT, hq, hq2]
        clear hq hq2
        go_enter Try.func37, Try.ntmps37
        go_wp2
        go_ret
        exact hol_ret (by rw [ByteArray.toList_eq]) HF.out
    · have e1 : (a != 0) = true := by simp [hq]
      by_cases hq2 : b = 0
      · have e2 : (b != 0) = false := by simp [hq2]
        have HF : Hid (holT [38, 38] a b = false) := by show _ = _; simp [holT, hq, hq2]
        clear hq hq2
        go_enter Try.func37, Try.ntmps37
        go_wp2
        go_ret
        exact hol_ret (by rw [ByteArray.toList_eq]) HF.out
      · have e2 : (b != 0) = true := by simp [hq2]
        have HF : Hid (holT [38, 38] a b = true) := by show _ = _; simp [holT, hq, hq2]
        clear hq hq2
        go_enter Try.func37, Try.ntmps37
        go_wp2
        go_ret
        exact hol_ret (by rw [ByteArray.toList_eq]) HF.out
  · have hs2 := toL_eq h
    subst hs2
    clear h
    by_cases hq : a = 0
    · have e1 : (a != 0) = false := by simp [hq]
      by_cases hq2 : b = 0
      · have e2 : (b != 0) = false := by simp [hq2]
        have HF : Hid (holT [124, 124] a b = false) := by show _ = _; simp [holT, hq, hq2]
        clear hq hq2
        go_enter Try.func37, Try.ntmps37
        go_wp2
        go_ret
        exact hol_ret (by rw [ByteArray.toList_eq]) HF.out
      · have e2 : (b != 0) = true := by simp [hq2]
        have HF : Hid (holT [124, 124] a b = true) := by show _ = _; simp [holT, hq, hq2]
        clear hq hq2
        go_enter Try.func37, Try.ntmps37
        go_wp2
        go_ret
        exact hol_ret (by rw [ByteArray.toList_eq]) HF.out
    · have e1 : (a != 0) = true := by simp [hq]
      by_cases hq2 : b = 0
      · have e2 : (b != 0) = false := by simp [hq2]
        have HF : Hid (holT [124, 124] a b = true) := by show _ = _; simp [holT, hq, hq2]
        clear hq hq2
        go_enter Try.func37, Try.ntmps37
        go_wp2
        go_ret
        exact hol_ret (by rw [ByteArray.toList_eq]) HF.out
      · have e2 : (b != 0) = true := by simp [hq2]
        have HF : Hid (holT [124, 124] a b = true) := by show _ = _; simp [holT, hq, hq2]
        clear hq hq2
        go_enter Try.func37, Try.ntmps37
        go_wp2
        go_ret
        exact hol_ret (by rw [ByteArray.toList_eq]) HF.out

set_option maxHeartbeats 8000000 in
set_option maxRecDepth 100000 in
theorem impl_reckoned (s : ByteArray) (a b : Int) (w : World) (h0 : rankT s.toList ≠ 0) (ha : inR a = true) (hb : inR b = true) (hz : s.toList = [47] ∨ s.toList = [37] → b ≠ 0) :
    Calls Try.prog 21 #[.string s, .int .i64 a, .int .i64 b] w fun e w' => e = .returned (.int .i64 (opM s.toList a b)) ∧ w' = w := by
  have hai := inR_iff.1 ha
  have hbi := inR_iff.1 hb
  have HW := rank_ways h0
  clear h0 ha hb
  rcases HW with h | h | h | h | h | h | h | h | h | h | h | h | h
  · have hs2 := toL_eq h
    subst hs2
    clear h hz
    go_enter Try.func21, Try.ntmps21
    go_wp2
    go_ret
    exact ⟨by rw [ByteArray.toList_eq]; rfl, rfl⟩
  · have hs2 := toL_eq h
    subst hs2
    clear h hz
    go_enter Try.func21, Try.ntmps21
    go_wp2
    go_ret
    exact ⟨by rw [ByteArray.toList_eq]; rfl, rfl⟩
  · have hs2 := toL_eq h
    subst hs2
    have hm1 : -1000000000000 ≤ a * b ∧ a * b ≤ 1000000000000 := mul_small hai hbi
    clear h hz
    go_enter Try.func21, Try.ntmps21
    go_wp2
    go_ret
    exact ⟨by rw [ByteArray.toList_eq]; rfl, rfl⟩
  · have hs2 := toL_eq h
    subst hs2
    have h0 : b ≠ 0 := hz (.inl h)
    have hq := quo_small hai hbi h0
    have e0 : (b == 0) = false := by simp [h0]
    clear h hz
    go_enter Try.func21, Try.ntmps21
    go_wp2
    go_ret
    exact ⟨by rw [ByteArray.toList_eq]; rfl, rfl⟩
  · have hs2 := toL_eq h
    subst hs2
    have h0 : b ≠ 0 := hz (.inr h)
    have hq := rem_small hai hbi h0
    have e0 : (b == 0) = false := by simp [h0]
    clear h hz
    go_enter Try.func21, Try.ntmps21
    go_wp2
    go_ret
    exact ⟨by rw [ByteArray.toList_eq]; rfl, rfl⟩
  · have hs2 := toL_eq h
    subst hs2
    have hc : Comp (⟨#[61, 61]⟩ : ByteArray).toList := by rw [ByteArray.toList_eq]; unfold Comp; simp
    have HH := Lib.hid (impl_holds ⟨#[61, 61]⟩ a b w hc)
    have HO := Lib.hid (op_hol (a := a) (b := b) hc)
    generalize holT (⟨#[61, 61]⟩ : ByteArray).toList a b = c at HH HO
    clear h hz hc
    go_enter Try.func21, Try.ntmps21
    go_wp2_with fail
    refine HH.out.mono ?_
    rintro e w2 ⟨rfl, rfl⟩
    go_wp2_with fail
    refine (impl_truth c _).mono ?_
    rintro e w3 ⟨rfl, rfl⟩
    go_wp2
    go_ret
    exact ⟨by rw [HO.out] <;> rfl, rfl⟩
  · have hs2 := toL_eq h
    subst hs2
    have hc : Comp (⟨#[33, 61]⟩ : ByteArray).toList := by rw [ByteArray.toList_eq]; unfold Comp; simp
    have HH := Lib.hid (impl_holds ⟨#[33, 61]⟩ a b w hc)
    have HO := Lib.hid (op_hol (a := a) (b := b) hc)
    generalize holT (⟨#[33, 61]⟩ : ByteArray).toList a b = c at HH HO
    clear h hz hc
    go_enter Try.func21, Try.ntmps21
    go_wp2_with fail
    refine HH.out.mono ?_
    rintro e w2 ⟨rfl, rfl⟩
    go_wp2_with fail
    refine (impl_truth c _).mono ?_
    rintro e w3 ⟨rfl, rfl⟩
    go_wp2
    go_ret
    exact ⟨by rw [HO.out] <;> rfl, rfl⟩
  · have hs2 := toL_eq h
    subst hs2
    have hc : Comp (⟨#[60]⟩ : ByteArray).toList := by rw [ByteArray.toList_eq]; unfold Comp; simp
    have HH := Lib.hid (impl_holds ⟨#[60]⟩ a b w hc)
    have HO := Lib.hid (op_hol (a := a) (b := b) hc)
    generalize holT (⟨#[60]⟩ : ByteArray).toList a b = c at HH HO
    clear h hz hc
    go_enter Try.func21, Try.ntmps21
    go_wp2_with fail
    refine HH.out.mono ?_
    rintro e w2 ⟨rfl, rfl⟩
    go_wp2_with fail
    refine (impl_truth c _).mono ?_
    rintro e w3 ⟨rfl, rfl⟩
    go_wp2
    go_ret
    exact ⟨by rw [HO.out] <;> rfl, rfl⟩
  · have hs2 := toL_eq h
    subst hs2
    have hc : Comp (⟨#[62]⟩ : ByteArray).toList := by rw [ByteArray.toList_eq]; unfold Comp; simp
    have HH := Lib.hid (impl_holds ⟨#[62]⟩ a b w hc)
    have HO := Lib.hid (op_hol (a := a) (b := b) hc)
    generalize holT (⟨#[62]⟩ : ByteArray).toList a b = c at HH HO
    clear h hz hc
    go_enter Try.func21, Try.ntmps21
    go_wp2_with fail
    refine HH.out.mono ?_
    rintro e w2 ⟨rfl, rfl⟩
    go_wp2_with fail
    refine (impl_truth c _).mono ?_
    rintro e w3 ⟨rfl, rfl⟩
    go_wp2
    go_ret
    exact ⟨by rw [HO.out] <;> rfl, rfl⟩
  · have hs2 := toL_eq h
    subst hs2
    have hc : Comp (⟨#[60, 61]⟩ : ByteArray).toList := by rw [ByteArray.toList_eq]; unfold Comp; simp
    have HH := Lib.hid (impl_holds ⟨#[60, 61]⟩ a b w hc)
    have HO := Lib.hid (op_hol (a := a) (b := b) hc)
    generalize holT (⟨#[60, 61]⟩ : ByteArray).toList a b = c at HH HO
    clear h hz hc
    go_enter Try.func21, Try.ntmps21
    go_wp2_with fail
    refine HH.out.mono ?_
    rintro e w2 ⟨rfl, rfl⟩
    go_wp2_with fail
    refine (impl_truth c _).mono ?_
    rintro e w3 ⟨rfl, rfl⟩
    go_wp2
    go_ret
    exact ⟨by rw [HO.out] <;> rfl, rfl⟩
  · have hs2 := toL_eq h
    subst hs2
    have hc : Comp (⟨#[62, 61]⟩ : ByteArray).toList := by rw [ByteArray.toList_eq]; unfold Comp; simp
    have HH := Lib.hid (impl_holds ⟨#[62, 61]⟩ a b w hc)
    have HO := Lib.hid (op_hol (a := a) (b := b) hc)
    generalize holT (⟨#[62, 61]⟩ : ByteArray).toList a b = c at HH HO
    clear h hz hc
    go_enter Try.func21, Try.ntmps21
    go_wp2_with fail
    refine HH.out.mono ?_
    rintro e w2 ⟨rfl, rfl⟩
    go_wp2_with fail
    refine (impl_truth c _).mono ?_
    rintro e w3 ⟨rfl, rfl⟩
    go_wp2
    go_ret
    exact ⟨by rw [HO.out] <;> rfl, rfl⟩
  · have hs2 := toL_eq h
    subst hs2
    have hc : Comp (⟨#[38, 38]⟩ : ByteArray).toList := by rw [ByteArray.toList_eq]; unfold Comp; simp
    have HH := Lib.hid (impl_holds ⟨#[38, 38]⟩ a b w hc)
    have HO := Lib.hid (op_hol (a := a) (b := b) hc)
    generalize holT (⟨#[38, 38]⟩ : ByteArray).toList a b = c at HH HO
    clear h hz hc
    go_enter Try.func21, Try.ntmps21
    go_wp2_with fail
    refine HH.out.mono ?_
    rintro e w2 ⟨rfl, rfl⟩
    go_wp2_with fail
    refine (impl_truth c _).mono ?_
    rintro e w3 ⟨rfl, rfl⟩
    go_wp2
    go_ret
    exact ⟨by rw [HO.out] <;> rfl, rfl⟩
  · have hs2 := toL_eq h
    subst hs2
    have hc : Comp (⟨#[124, 124]⟩ : ByteArray).toList := by rw [ByteArray.toList_eq]; unfold Comp; simp
    have HH := Lib.hid (impl_holds ⟨#[124, 124]⟩ a b w hc)
    have HO := Lib.hid (op_hol (a := a) (b := b) hc)
    generalize holT (⟨#[124, 124]⟩ : ByteArray).toList a b = c at HH HO
    clear h hz hc
    go_enter Try.func21, Try.ntmps21
    go_wp2_with fail
    refine HH.out.mono ?_
    rintro e w2 ⟨rfl, rfl⟩
    go_wp2_with fail
    refine (impl_truth c _).mono ?_
    rintro e w3 ⟨rfl, rfl⟩
    go_wp2
    go_ret
    exact ⟨by rw [HO.out] <;> rfl, rfl⟩

theorem app_zero {s : List UInt8} {a b : Int} (h0 : rankT s ≠ 0) (ha : inR a = true) (hb : inR b = true) (hz : s = [47] ∨ s = [37]) (h : b = 0) : applyM s a b = (0, 2) := by
  unfold applyM
  rw [if_neg (by rw [ha, hb]; simpa using h0), if_pos ⟨hz, h⟩]
theorem app_gen {s : List UInt8} {a b : Int} (h0 : rankT s ≠ 0) (ha : inR a = true) (hb : inR b = true) (hz : s = [47] ∨ s = [37] → b ≠ 0) : applyM s a b = if inR (opM s a b) = true then (opM s a b, 0) else (0, 3) := by
  unfold applyM
  rw [if_neg (by rw [ha, hb]; simpa using h0), if_neg (fun h => hz h.1 h.2)]

set_option maxHeartbeats 8000000 in
set_option maxRecDepth 100000 in
theorem apply_any (s : ByteArray) (a b : Int) (w : World) : Calls Try.prog 7 #[.string s, .int .i64 a, .int .i64 b] w (AppOf s.toList a b w) := by
  have HS := Lib.hid (impl_strengthOf s w)
  have HIA := Lib.hid (impl_inRange a w)
  have HIB := Lib.hid (impl_inRange b w)
  by_cases h0 : rankT s.toList = 0
  · have HF := Lib.hid (app_rank (a := a) (b := b) h0)
    rw [h0] at HS
    clear h0
    go_enter Try.func7, Try.ntmps7
    go_wp2_with fail
    refine HS.out.mono ?_
    rintro e w2 ⟨rfl, rfl⟩
    go_wp2
    go_ret2
    exact app_ret HF.out (Below.refl _ _)
  have HR0 := Lib.hid h0
  obtain ⟨r, HK⟩ : ∃ r : Nat, Hid (r = rankT s.toList) := ⟨_, Lib.hid rfl⟩
  rw [show rankT s.toList = r from HK.out.symm] at HS h0
  have e0 : ((r : Int) == 0) = false := by simp; omega
  clear h0
  cases ha : inR a
  · have HF := Lib.hid (app_a (s := s.toList) (b := b) ha)
    rw [ha] at HIA
    clear ha
    go_enter Try.func7, Try.ntmps7
    go_wp2_with fail
    refine HS.out.mono ?_
    rintro e w2 ⟨rfl, rfl⟩
    go_wp2_with fail
    refine HIA.out.mono ?_
    rintro e w3 ⟨rfl, rfl⟩
    go_wp2
    go_ret2
    exact app_ret HF.out (Below.refl _ _)
  cases hb : inR b
  · have HF := Lib.hid (app_b (s := s.toList) (a := a) hb)
    rw [ha] at HIA
    rw [hb] at HIB
    clear ha hb
    go_enter Try.func7, Try.ntmps7
    go_wp2_with fail
    refine HS.out.mono ?_
    rintro e w2 ⟨rfl, rfl⟩
    go_wp2_with fail
    refine HIA.out.mono ?_
    rintro e w3 ⟨rfl, rfl⟩
    go_wp2_with fail
    refine HIB.out.mono ?_
    rintro e w4 ⟨rfl, rfl⟩
    go_wp2
    go_ret2
    exact app_ret HF.out (Below.refl _ _)
  rw [ha] at HIA
  rw [hb] at HIB
  by_cases h47 : s.toList = [47]
  · have s1 : (s.toList == [47]) = true := by simp [h47]
    by_cases hb0 : b = 0
    · have HF := Lib.hid (app_zero HR0.out ha hb (.inl h47) hb0)
      have b0 : (b == 0) = true := by simp [hb0]
      clear h47 hb0 ha hb
      go_enter Try.func7, Try.ntmps7
      go_wp2_with fail
      refine HS.out.mono ?_
      rintro e w2 ⟨rfl, rfl⟩
      go_wp2_with fail
      refine HIA.out.mono ?_
      rintro e w3 ⟨rfl, rfl⟩
      go_wp2_with fail
      refine HIB.out.mono ?_
      rintro e w4 ⟨rfl, rfl⟩
      go_wp2
      go_ret2
      exact app_ret HF.out (Below.refl _ _)
    have hz : s.toList = [47] ∨ s.toList = [37] → b ≠ 0 := fun _ => hb0
    have HF := Lib.hid (app_gen HR0.out ha hb hz)
    have HR := Lib.hid (impl_reckoned s a b w HR0.out ha hb hz)
    obtain ⟨q, HQ⟩ : ∃ q : Int, Hid (q = opM s.toList a b) := ⟨_, Lib.hid rfl⟩
    rw [show opM s.toList a b = q from HQ.out.symm] at HR HF
    have HIQ := Lib.hid (impl_inRange q w)
    have b0 : (b == 0) = false := by simp [hb0]
    clear h47 hb0 ha hb hz
    go_enter Try.func7, Try.ntmps7
    go_wp2_with fail
    refine HS.out.mono ?_
    rintro e w2 ⟨rfl, rfl⟩
    go_wp2_with fail
    refine HIA.out.mono ?_
    rintro e w3 ⟨rfl, rfl⟩
    go_wp2_with fail
    refine HIB.out.mono ?_
    rintro e w4 ⟨rfl, rfl⟩
    go_wp2_with fail
    refine HR.out.mono ?_
    rintro e w5 ⟨rfl, rfl⟩
    cases hin : inR q
    · have HG : Hid (applyM s.toList a b = (0, 3)) := by show _ = _; rw [HF.out, hin]; rfl
      rw [hin] at HIQ
      clear hin
      go_wp2_with fail
      refine HIQ.out.mono ?_
      rintro e w6 ⟨rfl, rfl⟩
      go_wp2
      go_ret2
      exact app_ret HG.out (Below.refl _ _)
    · have HG : Hid (applyM s.toList a b = (q, 0)) := by show _ = _; rw [HF.out, hin]; rfl
      rw [hin] at HIQ
      clear hin
      go_wp2_with fail
      refine HIQ.out.mono ?_
      rintro e w6 ⟨rfl, rfl⟩
      go_wp2
      go_ret2
      exact app_ret HG.out (Below.refl _ _)
  by_cases h37 : s.toList = [37]
  · have s1 : (s.toList == [47]) = false := by simp [h37]
    have s2 : (s.toList == [37]) = true := by simp [h37]
    by_cases hb0 : b = 0
    · have HF := Lib.hid (app_zero HR0.out ha hb (.inr h37) hb0)
      have b0 : (b == 0) = true := by simp [hb0]
      clear h47 h37 hb0 ha hb
      go_enter Try.func7, Try.ntmps7
      go_wp2_with fail
      refine HS.out.mono ?_
      rintro e w2 ⟨rfl, rfl⟩
      go_wp2_with fail
      refine HIA.out.mono ?_
      rintro e w3 ⟨rfl, rfl⟩
      go_wp2_with fail
      refine HIB.out.mono ?_
      rintro e w4 ⟨rfl, rfl⟩
      go_wp2
      go_ret2
      exact app_ret HF.out (Below.refl _ _)
    have hz : s.toList = [47] ∨ s.toList = [37] → b ≠ 0 := fun _ => hb0
    have HF := Lib.hid (app_gen HR0.out ha hb hz)
    have HR := Lib.hid (impl_reckoned s a b w HR0.out ha hb hz)
    obtain ⟨q, HQ⟩ : ∃ q : Int, Hid (q = opM s.toList a b) := ⟨_, Lib.hid rfl⟩
    rw [show opM s.toList a b = q from HQ.out.symm] at HR HF
    have HIQ := Lib.hid (impl_inRange q w)
    have b0 : (b == 0) = false := by simp [hb0]
    clear h47 h37 hb0 ha hb hz
    go_enter Try.func7, Try.ntmps7
    go_wp2_with fail
    refine HS.out.mono ?_
    rintro e w2 ⟨rfl, rfl⟩
    go_wp2_with fail
    refine HIA.out.mono ?_
    rintro e w3 ⟨rfl, rfl⟩
    go_wp2_with fail
    refine HIB.out.mono ?_
    rintro e w4 ⟨rfl, rfl⟩
    go_wp2_with fail
    refine HR.out.mono ?_
    rintro e w5 ⟨rfl, rfl⟩
    cases hin : inR q
    · have HG : Hid (applyM s.toList a b = (0, 3)) := by show _ = _; rw [HF.out, hin]; rfl
      rw [hin] at HIQ
      clear hin
      go_wp2_with fail
      refine HIQ.out.mono ?_
      rintro e w6 ⟨rfl, rfl⟩
      go_wp2
      go_ret2
      exact app_ret HG.out (Below.refl _ _)
    · have HG : Hid (applyM s.toList a b = (q, 0)) := by show _ = _; rw [HF.out, hin]; rfl
      rw [hin] at HIQ
      clear hin
      go_wp2_with fail
      refine HIQ.out.mono ?_
      rintro e w6 ⟨rfl, rfl⟩
      go_wp2
      go_ret2
      exact app_ret HG.out (Below.refl _ _)
  have hz : s.toList = [47] ∨ s.toList = [37] → b ≠ 0 := fun h => (h.elim h47 h37).elim
  have HF := Lib.hid (app_gen HR0.out ha hb hz)
  have HR := Lib.hid (impl_reckoned s a b w HR0.out ha hb hz)
  obtain ⟨q, HQ⟩ : ∃ q : Int, Hid (q = opM s.toList a b) := ⟨_, Lib.hid rfl⟩
  rw [show opM s.toList a b = q from HQ.out.symm] at HR HF
  have HIQ := Lib.hid (impl_inRange q w)
  have s1 : (s.toList == [47]) = false := by simp [h47]
  have s2 : (s.toList == [37]) = false := by simp [h37]
  clear h47 h37 ha hb hz
  by_cases hb0 : b = 0
  · have b0 : (b == 0) = true := by simp [hb0]
    clear hb0
    go_enter Try.func7, Try.ntmps7
    go_wp2_with fail
    refine HS.out.mono ?_
    rintro e w2 ⟨rfl, rfl⟩
    go_wp2_with fail
    refine HIA.out.mono ?_
    rintro e w3 ⟨rfl, rfl⟩
    go_wp2_with fail
    refine HIB.out.mono ?_
    rintro e w4 ⟨rfl, rfl⟩
    go_wp2_with fail
    refine HR.out.mono ?_
    rintro e w5 ⟨rfl, rfl⟩
    cases hin : inR q
    · have HG : Hid (applyM s.toList a b = (0, 3)) := by show _ = _; rw [HF.out, hin]; rfl
      rw [hin] at HIQ
      clear hin
      go_wp2_with fail
      refine HIQ.out.mono ?_
      rintro e w6 ⟨rfl, rfl⟩
      go_wp2
      go_ret2
      exact app_ret HG.out (Below.refl _ _)
    · have HG : Hid (applyM s.toList a b = (q, 0)) := by show _ = _; rw [HF.out, hin]; rfl
      rw [hin] at HIQ
      clear hin
      go_wp2_with fail
      refine HIQ.out.mono ?_
      rintro e w6 ⟨rfl, rfl⟩
      go_wp2
      go_ret2
      exact app_ret HG.out (Below.refl _ _)
  · have b0 : (b == 0) = false := by simp [hb0]
    clear hb0
    go_enter Try.func7, Try.ntmps7
    go_wp2_with fail
    refine HS.out.mono ?_
    rintro e w2 ⟨rfl, rfl⟩
    go_wp2_with fail
    refine HIA.out.mono ?_
    rintro e w3 ⟨rfl, rfl⟩
    go_wp2_with fail
    refine HIB.out.mono ?_
    rintro e w4 ⟨rfl, rfl⟩
    go_wp2_with fail
    refine HR.out.mono ?_
    rintro e w5 ⟨rfl, rfl⟩
    cases hin : inR q
    · have HG : Hid (applyM s.toList a b = (0, 3)) := by show _ = _; rw [HF.out, hin]; rfl
      rw [hin] at HIQ
      clear hin
      go_wp2_with fail
      refine HIQ.out.mono ?_
      rintro e w6 ⟨rfl, rfl⟩
      go_wp2
      go_ret2
      exact app_ret HG.out (Below.refl _ _)
    · have HG : Hid (applyM s.toList a b = (q, 0)) := by show _ = _; rw [HF.out, hin]; rfl
      rw [hin] at HIQ
      clear hin
      go_wp2_with fail
      refine HIQ.out.mono ?_
      rintro e w6 ⟨rfl, rfl⟩
      go_wp2
      go_ret2
      exact app_ret HG.out (Below.refl _ _)

set_option maxHeartbeats 4000000 in
set_option maxRecDepth 100000 in
theorem number_same (s : ByteArray) (w : World) (hs : s.size ≤ maxLen) :
    Calls Try.prog 11 #[.string s] w fun e w' => e = .returned (.int .i64 (numRes s.toList)) ∧ w' = w := by
  unfold maxLen at hs
  obtain ⟨L, HL⟩ : ∃ L : List UInt8, Hid (L = s.toList) := ⟨_, Lib.hid rfl⟩
  rw [show s.toList = L from HL.out.symm]
  have hll : Hid (L.length = s.size) := by show _ = _; rw [HL.out, ByteArray.toList_eq]; simp
  have hget : Hid (∀ k (hk : k < s.size) (hk2 : k < L.length), L[k] = s[k]) := fun k hk hk2 => by
    have := HL.out
    subst this
    simp only [ByteArray.toList_eq]
    rfl
  go_enter Try.func11, Try.ntmps11
  by_cases h0 : s.size < 1
  · have HF : Hid (numRes L = -1) := by show _ = _; rw [List.length_eq_zero_iff.1 (by have := hll.out; omega : L.length = 0)]; rfl
    have e0 : decide ((s.size : Int) < 1) = true := decide_eq_true (by omega)
    go_wp2
    go_ret
    exact ⟨by rw [HF.out] <;> rfl, rfl⟩
  have e0 : decide ((s.size : Int) < 1) = false := decide_eq_false (by omega)
  by_cases h7 : 7 < s.size
  · have HF : Hid (numRes L = -1) := num_long (by have := hll.out; omega)
    have e1 : decide ((7 : Int) < (s.size : Int)) = true := decide_eq_true (by omega)
    go_wp2
    go_ret
    exact ⟨by rw [HF.out] <;> rfl, rfl⟩
  have e1 : decide ((7 : Int) < (s.size : Int)) = false := decide_eq_false (by omega)
  go_wp2
  go_loopw [3, 15] (fun vn i wr => ∃ (k : Nat) (n : Int), k ≤ s.size ∧ i = .int .i64 k ∧ vn = .int .i64 n ∧ Hid (n = digs (L.take k)) ∧ 0 ≤ n ∧ n < 10 ^ k ∧ Hid (∀ j, (hj : j < L.length) → j < k → isDig L[j] = true) ∧ wr = w) (fun _ i _ => s.size - (intOf i).toNat)
  case atStart => exact ⟨0, 0, by omega, rfl, rfl, rfl, Int.le_refl _, by decide, (fun j _ h => by omega), rfl⟩
  case round =>
    obtain ⟨k, n, hk, rfl, rfl, HN, hn0, hn1, HD, rfl⟩ := hrel
    by_cases hlt : k < s.size
    · have hlt2 : k < L.length := by have := hll.out; omega
      have i0 : (0 : Int) ≤ (k : Int) := by omega
      have i1 : (k : Int) < (s.size : Int) := by omega
      have HDG := Lib.hid (impl_isDigit s[k] wr)
      have HG := Lib.hid (hget.out k hlt hlt2)
      cases hd : isDig s[k]
      · have HF : Hid (numRes L = -1) := num_bad hlt2 (by rw [HG.out]; exact hd)
        rw [hd] at HDG
        clear hd
        go_wp2_with fail
        refine HDG.out.mono ?_
        rintro e w2 ⟨rfl, rfl⟩
        go_wp2
        go_ret
        exact ⟨by rw [HF.out] <;> rfl, rfl⟩
      · have HDK := Lib.hid hd
        rw [hd] at HDG
        unfold isDig at hd
        rw [decide_eq_true_eq] at hd
        go_wp2_with fail
        refine HDG.out.mono ?_
        rintro e w2 ⟨rfl, rfl⟩
        have hk6 : k ≤ 6 := by omega
        have hpow : (10 : Int) ^ k ≤ 1000000 := by
          have : ∀ j, j ≤ 6 → (10 : Int) ^ j ≤ 1000000 := by decide
          exact this k hk6
        have hps : (10 : Int) ^ (k + 1) = 10 ^ k * 10 := Int.pow_succ 10 k
        have HN2 : Hid (10 * n + ((s[k].toNat : Int) - 48) = digs (L.take (k + 1))) := by show _ = _; rw [digs_step hlt2, ← HN.out, HG.out]
        have HD2 : Hid (∀ j, (hj : j < L.length) → j < k + 1 → isDig L[j] = true) := fun j hj h => by
          by_cases e : j = k
          · subst e; rw [HG.out]; exact HDK.out
          · exact HD.out j hj (by omega)
        have w1 : IntKind.i64.wrap (10 * n) = 10 * n := IntWalk.i64_in _ (by omega)
        have w2 : IntKind.u8.wrap ((s[k].toNat : Int) - 48) = (s[k].toNat : Int) - 48 := IntWalk.u8_in _ (by omega)
        have w3 : IntKind.i64.wrap ((s[k].toNat : Int) - 48) = (s[k].toNat : Int) - 48 := IntWalk.i64_in _ (by omega)
        have w4 : IntKind.i64.wrap (10 * n + ((s[k].toNat : Int) - 48)) = 10 * n + ((s[k].toNat : Int) - 48) := IntWalk.i64_in _ (by omega)
        go_wp2
        go_roundw
        case rel => exact ⟨k + 1, 10 * n + ((s[k].toNat : Int) - 48), by omega, by go_num, rfl, HN2, by omega, by omega, HD2, trivial⟩
        case measure => simp [intOf]; omega
    · have hke : k = s.size := by omega
      have hle : L.length = k := by rw [hll.out, hke]
      have hn9 : Hid (n = digs L) := by show _ = _; rw [HN.out, List.take_of_length_le (by omega)]
      have HDA : Hid (∀ j, (hj : j < L.length) → isDig L[j] = true) := fun j hj => HD.out j hj (by omega)
      have HNE : Hid (L ≠ []) := fun e => by rw [e] at hle; simp at hle; omega
      have i2 : ¬ (k : Int) < (s.size : Int) := by omega
      by_cases hgr : 1000000 < n
      · have HF : Hid (numRes L = -1) := num_great (by rw [← hn9.out]; exact hgr)
        clear hke hle
        go_wp2
        go_ret
        exact ⟨by rw [HF.out] <;> rfl, rfl⟩
      · have HF : Hid (numRes L = n) := by show _ = _; rw [num_yes HNE.out (by omega) HDA.out (by rw [← hn9.out]; exact hgr), ← hn9.out]
        clear hke hle
        go_wp2
        go_ret
        exact ⟨by rw [HF.out] <;> rfl, rfl⟩

end Go.Proofs.Ytiaiggjfepoahaa

/- Values: what the text of a valid token says of its kind. No program. -/
namespace Go.Proofs.Ytiaiggjfepoahaa
open Go.RowKit

theorem vk_head {t : Tok} (h : tokOk t = true) {c : UInt8} {l : List UInt8} (e : t.text.toList = c :: l) : t.kind = cutKind c := by
  have e2 := toL_eq e
  obtain ⟨h0, hk⟩ := (tokOk_facts h).1
  obtain ⟨k, x, s, hd⟩ := t
  obtain rfl : x = ⟨(c :: l).toArray⟩ := e2
  exact hk
theorem rank_mark : ∀ s, rankT s ≠ 0 → ∃ c l, s = c :: l ∧ cutKind c = 4 := fun s h => by
  rcases rank_ways h with h | h | h | h | h | h | h | h | h | h | h | h | h <;> subst h <;> exact ⟨_, _, rfl, by decide⟩
theorem rankM_eq {t : Tok} (h : tokOk t = true) : rankM t = rankT t.text.toList := by
  unfold rankM
  split
  · rfl
  · rename_i h4
    cases e : rankT t.text.toList with
    | zero => rfl
    | succ n =>
      obtain ⟨c, l, h1, h2⟩ := rank_mark t.text.toList (by omega)
      exact absurd ((vk_head h h1).trans h2) h4
theorem isMk_eq {t : Tok} (h : tokOk t = true) {c : UInt8} (hc : cutKind c = 4) : isMk t [c] = (t.text.toList == [c]) := by
  unfold isMk
  cases e : (t.text.toList == [c])
  · rw [Bool.and_false]
  · rw [vk_head h (beq_iff_eq.1 e), hc]; rfl
theorem num_other {t : Tok} (h : tokOk t = true) (h2 : t.kind ≠ 2) : numRes t.text.toList = -1 := by
  obtain ⟨h0, hk⟩ := (tokOk_facts h).1
  have hl : t.text.toList.length = t.text.size := by rw [ByteArray.toList_eq]; simp
  have h0' : 0 < t.text.toList.length := by omega
  refine num_bad h0' ?_
  cases hd : isDig t.text.toList[0]
  · rfl
  · have e : t.text.toList = t.text.toList[0] :: t.text.toList.drop 1 := by
      have := List.drop_eq_getElem_cons h0'
      rw [List.drop_zero] at this
      exact this
    have := vk_head h e
    unfold cutKind at this
    rw [if_pos hd] at this
    exact absurd this h2

end Go.Proofs.Ytiaiggjfepoahaa

/- A text of tokens has nothing behind it. -/
namespace Go.Proofs.Ytiaiggjfepoahaa
open Go.RowKit
end Go.Proofs.Ytiaiggjfepoahaa

/- What stands for a place of a body (spec l10Part). (Made by gen_sub2.py.) -/
namespace Go.Proofs.Ytiaiggjfepoahaa
open Go.RowKit
/-- A token of a list: its cells. -/
theorem tok_at {w : World} {b off n cap : Nat} {l : List Tok} {fp : List Nat} (H : (sSlice sTok).R w [.slice (some ⟨b, off, none⟩) n cap] l fp) {j : Nat} (hj : j < l.length) :
    ∃ (aj : Option Addr) (cj : Nat) (fj : List Nat), w.cell? ⟨b, off + j * 4, none⟩ = some (.int .i64 l[j].kind) ∧ w.cell? ⟨b, off + j * 4 + 1, none⟩ = some (.string l[j].text) ∧ w.cell? ⟨b, off + j * 4 + 2, none⟩ = some (.bool l[j].spaced) ∧ w.cell? ⟨b, off + j * 4 + 3, none⟩ = some (.slice aj l[j].hidden.length cj) ∧
      sTok.R w [.int .i64 l[j].kind, .string l[j].text, .bool l[j].spaced, .slice aj l[j].hidden.length cj] l[j] fj ∧ b < w.heap.size ∧ ∀ x ∈ fj, x ∈ fp := by
  obtain ⟨a, cap', hv, hc, hm, hrow⟩ := open_rows H
  obtain ⟨b', off', fps, ha, hb, hfp, he⟩ := hrow (by omega)
  simp only [Value.slice.injEq] at hv
  obtain ⟨rfl, rfl, rfl⟩ := hv
  simp only [Option.some.injEq, Addr.mk.injEq, and_true] at ha
  obtain ⟨rfl, rfl⟩ := ha
  obtain ⟨es, hE, hR⟩ := he j hj
  have hR2 := hR
  obtain ⟨hh, rfl, -, -, K⟩ := hR2
  obtain ⟨aj, cj, rfl, -⟩ := open_strs K
  have c0 : w.cell? ⟨b, off + j * 4, none⟩ = some _ := elem_cell0 hE (by decide) rfl
  have c1 : w.cell? ⟨b, off + j * 4 + 1, none⟩ = some _ := elem_cell (j := 1) hE (by decide) rfl
  have c2 : w.cell? ⟨b, off + j * 4 + 2, none⟩ = some _ := elem_cell (j := 2) hE (by decide) rfl
  have c3 : w.cell? ⟨b, off + j * 4 + 3, none⟩ = some _ := elem_cell (j := 3) hE (by decide) rfl
  exact ⟨aj, cj, fps j, c0, c1, c2, c3, hR, hb, fun x hx => by rw [hfp]; exact List.mem_cons_of_mem _ (List.mem_flatMap.2 ⟨j, List.mem_range.2 hj, hx⟩)⟩
end Go.Proofs.Ytiaiggjfepoahaa

/- Of the model: values of tokens. (Made by gen_val6.py.) -/
namespace Go.Proofs.Ytiaiggjfepoahaa
open Go.RowKit

def VOf (r : VRes) (w : World) (e : Ending) (w' : World) : Prop := e = .returned (.tuple #[.int .i64 r.1, .int .i64 (r.2.1 : Nat), .int .i64 r.2.2]) ∧ Below w.heap.size w w'
theorem vof {r : VRes} {n : Int} {e : Nat} {f : Int} {w w' : World} (h : r = (n, e, f)) (hb : Below w.heap.size w w') : VOf r w (.returned (.tuple #[.int .i64 n, .int .i64 (e : Nat), .int .i64 f])) w' := ⟨by rw [h], hb⟩
/-- The three functions are walked, with so much fuel. -/
structure VC (l : List Tok) (d : Nat) : Prop where
  one : ∀ (k : Nat) (r : VRes), k ≤ l.length → pv l d (.one k) = some r → ∀ (v : Value) (fp : List Nat) (w : World), (sSlice sTok).R w [v] l fp → Calls Try.prog 56 #[v, .int .i64 k] w (VOf r w)
  marks : ∀ (k rank : Nat) (r : VRes), k ≤ l.length → rank ≤ 7 → pv l d (.marks k rank) = some r → ∀ (v : Value) (fp : List Nat) (w : World), (sSlice sTok).R w [v] l fp → Calls Try.prog 46 #[v, .int .i64 k, .int .i64 rank] w (VOf r w)
  choice : ∀ (k : Nat) (r : VRes), k ≤ l.length → pv l d (.choice k) = some r → ∀ (v : Value) (fp : List Nat) (w : World), (sSlice sTok).R w [v] l fp → Calls Try.prog 35 #[v, .int .i64 k] w (VOf r w)
theorem isMk_def (t : Tok) (c : UInt8) : (decide (t.kind = 4) && (t.text.toList == [c])) = isMk t [c] := rfl
theorem mkAt_in {l : List Tok} {k : Nat} {s : List UInt8} (hk : k < l.length) : mkAt l k s = isMk l[k] s := by unfold mkAt; rw [dif_pos hk]
theorem mkAt_out {l : List Tok} {k : Nat} {s : List UInt8} (hk : ¬ k < l.length) : mkAt l k s = false := by unfold mkAt; rw [dif_neg hk]

set_option maxHeartbeats 16000000 in
set_option maxRecDepth 100000 in
theorem one_walk {l : List Tok} {d : Nat} (hl : l.length ≤ 100) (hd : d ≤ 1000) (IH : ∀ d', d' < d → VC l d') (k : Nat) (r : VRes) (hk : k ≤ l.length) (h : pv l d (.one k) = some r) (v : Value) (fp : List Nat) (w : World) (H : (sSlice sTok).R w [v] l fp) :
    Calls Try.prog 56 #[v, .int .i64 k] w (VOf r w) := by
  have H0 := Lib.hid H
  obtain ⟨al, cl, rfl, hcl, hml, hrow⟩ := open_rows H
  unfold maxLen at hml
  clear H
  cases d with
  | zero => simp [pv] at h
  | succ d =>
  unfold pv at h
  go_enter Try.func56, Try.ntmps56
  by_cases hlt : k < l.length
  rotate_left
  · rw [dif_neg hlt] at h
    simp only [Option.some.injEq] at h
    have HF := Lib.hid h.symm
    have e1 : (l.length : Int) ≤ (k : Int) := by omega
    clear h hlt hrow
    go_wp2
    go_ret3
    exact vof HF.out (Below.refl _ _)
  rw [dif_pos hlt] at h
  obtain ⟨b1, o1, -, rfl, -, -, -⟩ := hrow (by omega)
  obtain ⟨xa, xc, xf, x0, x1, x2, x3, xR, hbb, -⟩ := tok_at H0.out hlt
  obtain ⟨tk, HTK⟩ : ∃ tk : Tok, Hid (tk = l[k]) := ⟨_, Lib.hid rfl⟩
  rw [show l[k] = tk from HTK.out.symm] at x0 x1 x2 x3 xR h
  have HH := Lib.hid h
  have bx := alloc_below' w (.cells #[.int .i64 tk.kind, .string tk.text, .bool tk.spaced, .slice xa tk.hidden.length xc] 36)
  have HX := Lib.hid (heap_alloc_new w (.cells #[.int .i64 tk.kind, .string tk.text, .bool tk.spaced, .slice xa tk.hidden.length xc] 36))
  have HL1 := Lib.hid ((sSlice sTok).below H0.out bx)
  have HR1 := Lib.hid (sTok.below xR bx)
  have e1 : ¬ (l.length : Int) ≤ (k : Int) := by omega
  have i0 : (0 : Int) ≤ (k : Int) := by omega
  have i1 : (k : Int) < (l.length : Int) := by omega
  have hkw : IntKind.i64.wrap ((k : Int) + 1) = ((k + 1 : Nat) : Int) := by rw [IntWalk.i64_in _ (by omega)]; omega
  have hok : okStr tk.text := xR.choose_spec.2.2.1
  have HOK := Lib.hid hok
  clear hrow xR h hbb hok
  go_upto_region 4 with fail
  clear x0 x1 x2 x3 e1
  generalize (w.alloc (.cells #[.int .i64 tk.kind, .string tk.text, .bool tk.spaced, .slice xa tk.hidden.length xc] 36)) = W1 at *
  have HIS := Lib.hid (fun (Q : World) (hQ : Below W1.heap.size W1 Q) (c : UInt8) => spec_l7Is _ tk xf Q c (sTok.below HR1.out hQ))
  have q0 := cell_of_row W1 w.heap.size 0 _ _ _ HX.out
  have q1 := cell_of_row W1 w.heap.size 1 _ _ _ HX.out
  have q2 := cell_of_row W1 w.heap.size 2 _ _ _ HX.out
  have q3 := cell_of_row W1 w.heap.size 3 _ _ _ HX.out
  have Ha := HIS.out W1 (Below.refl _ _) 33
  rw [isMk_def] at Ha
  have Hah := Lib.hid Ha
  clear Ha
  cases ha : isMk tk [33]
  rotate_left
  · skip
    rw [ha] at Hah
    go_wp2_with fail
    refine Hah.out.mono ?_
    rintro e w2 ⟨rfl, hbw2⟩
    have hQw2 := hbw2
    clear Hah q0 q1 q2 q3
    have HXw2 := Lib.hid (mbox HX.out hQw2)
    have h9 := HH.out
    rw [if_pos ha] at h9
    obtain ⟨a, ha1, ha2⟩ := bind_some h9
    simp only [Option.some.injEq] at ha2
    have HF := Lib.hid ha2.symm
    have HC := Lib.hid ((IH d (by omega)).one (k + 1) a hlt ha1 _ fp w2 ((sSlice sTok).below HL1.out hQw2))
    clear h9 ha1 ha2 ha HH
    unfold VOf at HC
    go_wp2_with fail
    refine HC.out.mono ?_
    rintro e w3 ⟨rfl, hb3⟩
    have hB3 := bx.trans ((hQw2.trans (hb3.mono hQw2.size)).mono bx.size)
    clear HC
    obtain ⟨n, en, ft⟩ := a
    by_cases hn : n = 0
    · have e0 : (n == 0) = true := by simp [hn]
      have HG : Hid (r = (bit1 true, en, ft)) := by show _ = _; rw [HF.out]; simp [hn]
      clear HF hn
      go_wp2_with fail
      refine (spec_l12Truth true _).mono ?_
      rintro e w4 ⟨rfl, rfl⟩
      go_wp2
      go_ret3
      exact vof HG.out hB3
    · have e0 : (n == 0) = false := by simp [hn]
      have HG : Hid (r = (bit1 false, en, ft)) := by show _ = _; rw [HF.out]; simp [hn]
      clear HF hn
      go_wp2_with fail
      refine (spec_l12Truth false _).mono ?_
      rintro e w4 ⟨rfl, rfl⟩
      go_wp2
      go_ret3
      exact vof HG.out hB3
  rw [ha] at Hah
  go_wp2_with fail
  refine Hah.out.mono ?_
  rintro e w2 ⟨rfl, hbw2⟩
  have hQw2 := hbw2
  clear Hah q0 q1 q2 q3
  have HXw2 := Lib.hid (mbox HX.out hQw2)
  have q0 := cell_of_row w2 w.heap.size 0 _ _ _ HXw2.out
  have q1 := cell_of_row w2 w.heap.size 1 _ _ _ HXw2.out
  have q2 := cell_of_row w2 w.heap.size 2 _ _ _ HXw2.out
  have q3 := cell_of_row w2 w.heap.size 3 _ _ _ HXw2.out
  have Hb := HIS.out w2 (hQw2) 45
  rw [isMk_def] at Hb
  have Hbh := Lib.hid Hb
  clear Hb
  cases hb : isMk tk [45]
  rotate_left
  · skip
    rw [hb] at Hbh
    go_wp2_with fail
    refine Hbh.out.mono ?_
    rintro e w3 ⟨rfl, hbw3⟩
    have hQw3 := hQw2.trans (hbw3.mono hQw2.size)
    clear Hbh q0 q1 q2 q3
    have HXw3 := Lib.hid (mbox HX.out hQw3)
    have h9 := HH.out
    rw [if_neg (by rw [ha]; simp), if_pos hb] at h9
    obtain ⟨a, ha1, ha2⟩ := bind_some h9
    simp only [Option.some.injEq] at ha2
    have HF := Lib.hid ha2.symm
    have HFN := pv_fine l d _ _ (show okQ l (.one (k + 1)) from hlt) ha1
    have hin := inR_iff.1 HFN.1
    have HC := Lib.hid ((IH d (by omega)).one (k + 1) a hlt ha1 _ fp w3 ((sSlice sTok).below HL1.out hQw3))
    clear h9 ha1 ha2 ha hb HH HFN
    unfold VOf at HC
    go_wp2_with fail
    refine HC.out.mono ?_
    rintro e w4 ⟨rfl, hb4⟩
    have hB4 := bx.trans ((hQw3.trans (hb4.mono hQw3.size)).mono bx.size)
    clear HC
    obtain ⟨n, en, ft⟩ := a
    have hin2 : -1000000 ≤ n ∧ n ≤ 1000000 := hin
    have hng : IntKind.i64.wrap (-n) = -n := IntWalk.i64_in _ (by omega)
    clear hin
    go_wp2
    go_ret3
    exact vof HF.out hB4
  rw [hb] at Hbh
  go_wp2_with fail
  refine Hbh.out.mono ?_
  rintro e w3 ⟨rfl, hbw3⟩
  have hQw3 := hQw2.trans (hbw3.mono hQw2.size)
  clear Hbh q0 q1 q2 q3
  have HXw3 := Lib.hid (mbox HX.out hQw3)
  have q0 := cell_of_row w3 w.heap.size 0 _ _ _ HXw3.out
  have q1 := cell_of_row w3 w.heap.size 1 _ _ _ HXw3.out
  have q2 := cell_of_row w3 w.heap.size 2 _ _ _ HXw3.out
  have q3 := cell_of_row w3 w.heap.size 3 _ _ _ HXw3.out
  have Hc := HIS.out w3 (hQw3) 40
  rw [isMk_def] at Hc
  have Hch := Lib.hid Hc
  clear Hc
  cases hc : isMk tk [40]
  rotate_left
  · skip
    rw [hc] at Hch
    go_wp2_with fail
    refine Hch.out.mono ?_
    rintro e w4 ⟨rfl, hbw4⟩
    have hQw4 := hQw3.trans (hbw4.mono hQw3.size)
    clear Hch q0 q1 q2 q3
    have HXw4 := Lib.hid (mbox HX.out hQw4)
    have h9 := HH.out
    rw [if_neg (by rw [ha]; simp), if_neg (by rw [hb]; simp), if_pos hc] at h9
    obtain ⟨a, ha1, ha2⟩ := bind_some h9
    simp only [Option.some.injEq] at ha2
    have HF := Lib.hid ha2.symm
    have HFN := pv_fine l d _ _ (show okQ l (.choice (k + 1)) from hlt) ha1
    have HC := Lib.hid ((IH d (by omega)).choice (k + 1) a hlt ha1 _ fp w4 ((sSlice sTok).below HL1.out hQw4))
    clear h9 ha1 ha2 ha hb hc HH
    unfold VOf at HC
    obtain ⟨n, en, ft⟩ := a
    obtain ⟨-, f2, f3, f4, f5⟩ := HFN
    have f2' : en ≤ l.length + d := f2
    have f3' : ft = 0 → en ≤ l.length := fun h => (f3 h).1
    have hew : IntKind.i64.wrap ((en : Int) + 1) = ((en + 1 : Nat) : Int) := by rw [IntWalk.i64_in _ (by omega)]; omega
    clear f2 f3 f4 f5
    try dsimp only at HF HC
    go_wp2_with fail
    refine HC.out.mono ?_
    rintro e w5 ⟨rfl, hb5⟩
    have hQ5 := hQw4.trans (hb5.mono hQw4.size)
    have hB5 := bx.trans (hQ5.mono bx.size)
    clear HC
    by_cases hft : ft = 0
    rotate_left
    · have e0 : (ft == 0) = false := by simp [hft]
      have HG : Hid (r = (n, en + 1, ft)) := by show _ = _; rw [HF.out, if_neg (fun h => hft h.1)]
      clear HF hft
      go_wp2
      go_ret3
      exact vof HG.out hB5
    subst hft
    have e0 : ((0 : Int) == 0) = true := rfl
    by_cases hel : en < l.length
    rotate_left
    · have HG : Hid (r = (n, en + 1, 1)) := by show _ = _; rw [HF.out, if_pos ⟨rfl, mkAt_out hel⟩]
      have e2 : (l.length : Int) ≤ (en : Int) := by omega
      clear HF hel
      go_wp2
      go_ret3
      exact vof HG.out hB5
    have HL5 := Lib.hid ((sSlice sTok).below HL1.out hQ5)
    obtain ⟨ya, yc, yf, y0, y1, y2, y3, yR, -, -⟩ := tok_at HL5.out hel
    have e2 : ¬ (l.length : Int) ≤ (en : Int) := by omega
    have j0 : (0 : Int) ≤ (en : Int) := by omega
    have j1 : (en : Int) < (l.length : Int) := by omega
    have HM := spec_l7Is _ l[en] yf w5 41 yR
    rw [isMk_def, ← mkAt_in hel] at HM
    have HMH := Lib.hid HM
    clear HM yR
    cases hm : mkAt l en [41]
    · rw [hm] at HMH
      have HG : Hid (r = (n, en + 1, 1)) := by show _ = _; rw [HF.out, if_pos ⟨rfl, hm⟩]
      clear HF hm
      go_wp2_with fail
      refine HMH.out.mono ?_
      rintro e w6 ⟨rfl, hb6⟩
      go_wp2
      go_ret3
      exact vof HG.out (hB5.trans (hb6.mono hB5.size))
    · rw [hm] at HMH
      have HG : Hid (r = (n, en + 1, 0)) := by show _ = _; rw [HF.out, if_neg (fun h => by rw [hm] at h; exact absurd h.2 (by simp))]
      clear HF hm
      go_wp2_with fail
      refine HMH.out.mono ?_
      rintro e w6 ⟨rfl, hb6⟩
      go_wp2
      go_ret3
      exact vof HG.out (hB5.trans (hb6.mono hB5.size))
  rw [hc] at Hch
  go_wp2_with fail
  refine Hch.out.mono ?_
  rintro e w4 ⟨rfl, hbw4⟩
  have hQw4 := hQw3.trans (hbw4.mono hQw3.size)
  clear Hch q0 q1 q2 q3
  have HXw4 := Lib.hid (mbox HX.out hQw4)
  have q0 := cell_of_row w4 w.heap.size 0 _ _ _ HXw4.out
  have q1 := cell_of_row w4 w.heap.size 1 _ _ _ HXw4.out
  have q2 := cell_of_row w4 w.heap.size 2 _ _ _ HXw4.out
  have q3 := cell_of_row w4 w.heap.size 3 _ _ _ HXw4.out
  have hB4 := bx.trans (hQw4.mono bx.size)
  have h9 := HH.out
  rw [if_neg (by rw [ha]; simp), if_neg (by rw [hb]; simp), if_neg (by rw [hc]; simp)] at h9
  clear ha hb hc HH
  by_cases hk1 : tk.kind = 1
  · rw [if_pos hk1] at h9
    simp only [Option.some.injEq] at h9
    have HF := Lib.hid h9.symm
    have e2 : (tk.kind == 1) = true := by simp [hk1]
    clear h9 hk1
    go_wp2
    go_ret3
    exact vof HF.out hB4
  rw [if_neg hk1] at h9
  have e2 : (tk.kind == 1) = false := by simp [hk1]
  clear hk1
  have HNU := Lib.hid (fun (Q : World) => spec_NumberOf tk.text Q HOK.out)
  obtain ⟨nu, HNN⟩ : ∃ nu : Int, Hid (nu = numRes tk.text.toList) := ⟨_, Lib.hid rfl⟩
  rw [show numRes tk.text.toList = nu from HNN.out.symm] at HNU h9
  by_cases hk2 : tk.kind = 2
  rotate_left
  · rw [if_neg (fun h => hk2 h.1)] at h9
    simp only [Option.some.injEq] at h9
    have HF := Lib.hid h9.symm
    have e3 : (tk.kind == 2) = false := by simp [hk2]
    clear h9 hk2
    go_wp2
    go_ret3
    exact vof HF.out hB4
  have e3 : (tk.kind == 2) = true := by simp [hk2]
  go_wp2_with fail
  refine (HNU.out _).mono ?_
  rintro e w5 ⟨rfl, hb5⟩
  have hQ5 := hQw4.trans (hb5.mono hQw4.size)
  have hB5 := bx.trans (hQ5.mono bx.size)
  clear q0 q1 q2 q3
  have HX5 := Lib.hid (mbox HX.out hQ5)
  have q1 := cell_of_row w5 w.heap.size 1 _ _ _ HX5.out
  by_cases hnu : 0 ≤ nu
  rotate_left
  · rw [if_neg (fun h => hnu h.2)] at h9
    simp only [Option.some.injEq] at h9
    have HF := Lib.hid h9.symm
    clear h9 hk2
    go_wp2
    go_ret3
    exact vof HF.out hB5
  rw [if_pos ⟨hk2, hnu⟩] at h9
  simp only [Option.some.injEq] at h9
  have HF := Lib.hid h9.symm
  clear h9 hk2
  go_wp2_with fail
  refine (HNU.out _).mono ?_
  rintro e w6 ⟨rfl, hb6⟩
  go_wp2
  go_ret3
  exact vof HF.out (hB5.trans (hb6.mono hB5.size))

end Go.Proofs.Ytiaiggjfepoahaa

/- Of the model: values with marks between, choices, ValueOf. -/
namespace Go.Proofs.Ytiaiggjfepoahaa
open Go.RowKit

theorem rankM_le (t : Tok) : rankM t ≤ 6 := by
  unfold rankM rankT
  split
  · repeat' split
    all_goals omega
  · omega
theorem more_end {l : List Tok} {d rank e : Nat} {n f : Int} {r : VRes} (h : pv l d (.more rank n e f) = some r) (hf : ¬ (f = 0 ∧ e < l.length)) : r = (n, e, f) := by
  cases d with
  | zero => simp [pv] at h
  | succ d =>
    unfold pv at h
    rw [dif_neg hf] at h
    simpa using h.symm

set_option maxHeartbeats 16000000 in
set_option maxRecDepth 100000 in
theorem marks_walk {l : List Tok} {d : Nat} (hl : l.length ≤ 100) (hd : d ≤ 1000) (IH : ∀ d', d' < d → VC l d') (k rank : Nat) (r : VRes) (hk : k ≤ l.length) (hr7 : rank ≤ 7) (h : pv l d (.marks k rank) = some r) (v : Value) (fp : List Nat) (w : World) (H : (sSlice sTok).R w [v] l fp) :
    Calls Try.prog 46 #[v, .int .i64 k, .int .i64 rank] w (VOf r w) := by
  have H0 := Lib.hid H
  obtain ⟨al, cl, rfl, hcl, hml, hrow⟩ := open_rows H
  unfold maxLen at hml
  have HROW : Hid (0 < l.length → ∃ bb ob, al = some ⟨bb, ob, none⟩) := fun h => by obtain ⟨b, o, -, e, -⟩ := hrow h; exact ⟨b, o, e⟩
  clear H hrow
  cases d with
  | zero => simp [pv] at h
  | succ d =>
  unfold pv at h
  obtain ⟨a, ha1, ha2⟩ := bind_some h
  have HFN := pv_fine l d _ _ (show okQ l (.one k) from hk) ha1
  have HC := Lib.hid ((IH d (by omega)).one k a hk ha1 _ fp w H0.out)
  unfold VOf at HC
  obtain ⟨n0, e0, f0⟩ := a
  have HM := Lib.hid ha2
  have HG0 : Hid (f0 = 0 → e0 ≤ l.length ∧ inR n0 = true) := fun h => ⟨(HFN.2.2.1 h).1, HFN.1⟩
  try dsimp only at HC HM
  clear h ha1 ha2 HFN
  go_enter Try.func46, Try.ntmps46
  go_wp2_with fail
  refine HC.out.mono ?_
  rintro e w1 ⟨rfl, hb1⟩
  clear HC
  go_wp2
  go_loopw [9, 10, 11] (fun vn ve vf wr => ∃ (d' e : Nat) (n f : Int), d' ≤ d ∧ vn = .int .i64 n ∧ ve = .int .i64 e ∧ vf = .int .i64 f ∧ Hid (pv l d' (.more rank n e f) = some r) ∧ Hid (f = 0 → e ≤ l.length ∧ inR n = true) ∧ Below w.heap.size w wr) (fun _ ve _ _ => l.length - (intOf ve).toNat)
  case atStart => exact ⟨d, e0, n0, f0, Nat.le_refl _, rfl, rfl, rfl, HM.out, HG0.out, hb1⟩
  case round =>
    clear HM HG0 hb1
    obtain ⟨d', e, n, f, hd', rfl, rfl, rfl, HP, HG, hb⟩ := hrel
    by_cases hf : f = 0
    rotate_left
    · have HF := Lib.hid (more_bad HP.out hf)
      have g1 : (f == 0) = false := by simp [hf]
      clear hf
      go_wp2
      go_ret3
      exact vof HF.out hb
    subst hf
    obtain ⟨hel, hin⟩ := HG.out rfl
    by_cases hlt : e < l.length
    rotate_left
    · have HF := Lib.hid (more_end HP.out (fun h => hlt h.2))
      have g1 : ¬ (e : Int) < (l.length : Int) := by omega
      clear hlt
      go_wp2
      go_ret3
      exact vof HF.out hb
    cases d' with
    | zero => have := HP.out; simp [pv] at this
    | succ d' =>
    have hp := HP.out
    unfold pv at hp
    rw [dif_pos ⟨rfl, hlt⟩] at hp
    obtain ⟨b1, o1, rfl⟩ := HROW.out (by omega)
    obtain ⟨xa, xc, xf, x0, x1, x2, x3, xR, hbb, -⟩ := tok_at H0.out hlt
    obtain ⟨tk, HTK⟩ : ∃ tk : Tok, Hid (tk = l[e]) := ⟨_, Lib.hid rfl⟩
    rw [show l[e] = tk from HTK.out.symm] at x0 x1 x2 x3 xR hp
    replace x0 := (hb.cell (p := ⟨b1, o1 + e * 4, none⟩) hbb).trans x0
    have hx1 := x1
    replace x1 := (hb.cell (p := ⟨b1, o1 + e * 4 + 1, none⟩) hbb).trans x1
    replace x2 := (hb.cell (p := ⟨b1, o1 + e * 4 + 2, none⟩) hbb).trans x2
    replace x3 := (hb.cell (p := ⟨b1, o1 + e * 4 + 3, none⟩) hbb).trans x3
    have HX1 : Hid (∀ Q : World, Below w.heap.size w Q → Q.cell? ⟨b1, o1 + e * 4 + 1, none⟩ = some (.string tk.text)) := fun Q hQ => (hQ.cell (p := ⟨b1, o1 + e * 4 + 1, none⟩) hbb).trans hx1
    have HRK := Lib.hid (spec_l12Rank _ tk xf wr (sTok.below xR hb))
    have HOK : Hid (okStr tk.text) := xR.choose_spec.2.2.1
    have hr6 := rankM_le tk
    obtain ⟨rk, HK⟩ : ∃ rk : Nat, Hid (rk = rankM tk) := ⟨_, Lib.hid rfl⟩
    rw [show rankM tk = rk from HK.out.symm] at HRK hp hr6
    have i0 : (0 : Int) ≤ (e : Int) := by omega
    have i1 : (e : Int) < (l.length : Int) := by omega
    have HPP := Lib.hid hp
    clear hx1 xR hp hbb
    go_wp2_with fail
    refine HRK.out.mono ?_
    rintro ee w2 ⟨rfl, hb2⟩
    have hB2 := hb.trans (hb2.mono hb.size)
    clear x0 x1 x2 x3 HRK
    by_cases hlr : rk < rank
    · have h9 := HPP.out
      rw [if_pos hlr] at h9
      simp only [Option.some.injEq] at h9
      have HF := Lib.hid h9.symm
      have g1 : (rk : Int) < (rank : Int) := by omega
      clear h9 hlr
      go_wp2
      go_ret3
      exact vof HF.out hB2
    have h9 := HPP.out
    rw [if_neg hlr] at h9
    have g1 : ¬ (rk : Int) < (rank : Int) := by omega
    obtain ⟨a, ha1, ha2⟩ := bind_some h9
    have HFN := pv_fine l d' _ _ (show okQ l (.marks (e + 1) (rk + 1)) from hlt) ha1
    have HC := Lib.hid ((IH d' (by omega)).marks (e + 1) (rk + 1) a hlt (by omega) ha1 _ fp w2 ((sSlice sTok).below H0.out hB2))
    unfold VOf at HC
    obtain ⟨m, nx, o⟩ := a
    have HA2 := Lib.hid ha2
    obtain ⟨f1, -, f3, -, -⟩ := HFN
    have HNX : Hid (o = 0 → nx ≤ l.length ∧ e + 1 < nx) := fun h => ⟨(f3 h).1, ((f3 h).2.2).resolve_left (fun h => h)⟩
    have hm1 : inR m = true := f1
    have w1' : IntKind.i64.wrap ((e : Int) + 1) = ((e + 1 : Nat) : Int) := by rw [IntWalk.i64_in _ (by omega)]; omega
    have w2' : IntKind.i64.wrap ((rk : Int) + 1) = ((rk + 1 : Nat) : Int) := by rw [IntWalk.i64_in _ (by omega)]; omega
    try dsimp only at HC HA2
    clear h9 ha1 ha2 f1 f3 hlr HPP
    go_wp2_with fail
    refine HC.out.mono ?_
    rintro ee w3 ⟨rfl, hb3⟩
    have hB3 := hB2.trans (hb3.mono hB2.size)
    clear HC w1' w2'
    by_cases ho : o = 0
    rotate_left
    · have h8 := HA2.out
      rw [if_pos ho] at h8
      simp only [Option.some.injEq] at h8
      have HF := Lib.hid h8.symm
      have g2 : (o != 0) = true := by simp [ho]
      clear h8 ho
      go_wp2
      go_ret3
      exact vof HF.out hB3
    subst ho
    have h8 := HA2.out
    rw [if_neg (by simp)] at h8
    have HPN := Lib.hid h8
    have y1 := HX1.out w3 hB3
    have hni := inR_iff.1 hin
    have hmi := inR_iff.1 hm1
    have HAP := Lib.hid (spec_ApplyMark tk.text n m w3 HOK.out (by unfold okInt; omega) (by unfold okInt; omega))
    unfold AppOf at HAP
    have HAI := Lib.hid (applyM_in tk.text.toList n m)
    obtain ⟨hnx1, hnx2⟩ := HNX.out rfl
    rcases hap : applyM tk.text.toList n m with ⟨x, wf⟩
    rw [hap] at HAP HPN HAI
    try dsimp only at HAP HPN HAI
    clear h8 hap HA2 HNX
    go_wp2_with fail
    refine HAP.out.mono ?_
    rintro ee w4 ⟨rfl, hb4⟩
    have hB4 := hB3.trans (hb4.mono hB3.size)
    have HG4 : Hid (wf = 0 → nx ≤ l.length ∧ inR x = true) := fun _ => ⟨hnx1, HAI.out.1⟩
    clear HAP y1
    go_wp2
    go_roundw
    case rel => exact ⟨d', nx, x, wf, by omega, rfl, rfl, rfl, HPN.out, HG4.out, hB4⟩
    case measure => simp [intOf]; omega

set_option maxHeartbeats 16000000 in
set_option maxRecDepth 100000 in
theorem choice_walk {l : List Tok} {d : Nat} (hl : l.length ≤ 100) (hd : d ≤ 1000) (IH : ∀ d', d' < d → VC l d') (k : Nat) (r : VRes) (hk : k ≤ l.length) (h : pv l d (.choice k) = some r) (v : Value) (fp : List Nat) (w : World) (H : (sSlice sTok).R w [v] l fp) :
    Calls Try.prog 35 #[v, .int .i64 k] w (VOf r w) := by
  have H0 := Lib.hid H
  obtain ⟨al, cl, rfl, hcl, hml, hrow⟩ := open_rows H
  unfold maxLen at hml
  have HROW : Hid (0 < l.length → ∃ bb ob, al = some ⟨bb, ob, none⟩) := fun h => by obtain ⟨b, o, -, e, -⟩ := hrow h; exact ⟨b, o, e⟩
  clear H hrow
  cases d with
  | zero => simp [pv] at h
  | succ d =>
  unfold pv at h
  obtain ⟨a, ha1, ha2⟩ := bind_some h
  have HFN := pv_fine l d _ _ (show okQ l (.marks k 1) from hk) ha1
  have HC := Lib.hid ((IH d (by omega)).marks k 1 a hk (by omega) ha1 _ fp w H0.out)
  unfold VOf at HC
  obtain ⟨n, en, ft⟩ := a
  have HM := Lib.hid ha2
  have HEN : Hid (ft = 0 → en ≤ l.length) := fun h => (HFN.2.2.1 h).1
  try dsimp only at HC HM
  rw [show ((1 : Nat) : Int) = 1 from rfl] at HC
  clear h ha1 ha2 HFN
  go_enter Try.func35, Try.ntmps35
  go_wp2_with fail
  refine HC.out.mono ?_
  rintro e w1 ⟨rfl, hb1⟩
  clear HC
  by_cases hf : ft = 0
  rotate_left
  · have h9 := HM.out
    rw [if_neg (fun h => hf h.1)] at h9
    simp only [Option.some.injEq] at h9
    have HF := Lib.hid h9.symm
    have g1 : (ft != 0) = true := by simp [hf]
    clear h9 hf
    go_wp2
    go_ret3
    exact vof HF.out hb1
  subst hf
  have hel := HEN.out rfl
  by_cases hlt : en < l.length
  rotate_left
  · have h9 := HM.out
    rw [if_neg (fun h => by rw [mkAt_out hlt] at h; exact absurd h.2 (by simp))] at h9
    simp only [Option.some.injEq] at h9
    have HF := Lib.hid h9.symm
    have g1 : (l.length : Int) ≤ (en : Int) := by omega
    clear h9 hlt
    go_wp2
    go_ret3
    exact vof HF.out hb1
  obtain ⟨b1, o1, rfl⟩ := HROW.out (by omega)
  have HL1 := Lib.hid ((sSlice sTok).below H0.out hb1)
  obtain ⟨xa, xc, xf, x0, x1, x2, x3, xR, -, -⟩ := tok_at HL1.out hlt
  have HQ := spec_l7Is _ l[en] xf w1 63 xR
  rw [isMk_def, ← mkAt_in hlt] at HQ
  have HQH := Lib.hid HQ
  have g1 : ¬ (l.length : Int) ≤ (en : Int) := by omega
  have i0 : (0 : Int) ≤ (en : Int) := by omega
  have i1 : (en : Int) < (l.length : Int) := by omega
  clear HQ xR
  cases hq : mkAt l en [63]
  · have h9 := HM.out
    rw [if_neg (fun h => by rw [hq] at h; exact absurd h.2 (by simp))] at h9
    simp only [Option.some.injEq] at h9
    have HF := Lib.hid h9.symm
    rw [hq] at HQH
    clear h9 hq
    go_wp2_with fail
    refine HQH.out.mono ?_
    rintro e w2 ⟨rfl, hb2⟩
    go_wp2
    go_ret3
    exact vof HF.out (hb1.trans (hb2.mono hb1.size))
  have h9 := HM.out
  rw [if_pos ⟨rfl, hq⟩] at h9
  rw [hq] at HQH
  obtain ⟨a, ha1, ha2⟩ := bind_some h9
  have HFN := pv_fine l d _ _ (show okQ l (.choice (en + 1)) from hlt) ha1
  have HCA := Lib.hid (fun (Q : World) (hQ : Below w.heap.size w Q) => (IH d (by omega)).choice (en + 1) a hlt ha1 _ fp Q ((sSlice sTok).below H0.out hQ))
  unfold VOf at HCA
  obtain ⟨na, ea, fa⟩ := a
  have HA2 := Lib.hid ha2
  have HEA : Hid (fa = 0 → ea ≤ l.length) := fun h => (HFN.2.2.1 h).1
  have w1' : IntKind.i64.wrap ((en : Int) + 1) = ((en + 1 : Nat) : Int) := by rw [IntWalk.i64_in _ (by omega)]; omega
  try dsimp only at HCA HA2
  clear h9 ha1 ha2 HFN hq HM
  go_wp2_with fail
  refine HQH.out.mono ?_
  rintro e w2 ⟨rfl, hb2⟩
  have hB2 := hb1.trans (hb2.mono hb1.size)
  clear x0 x1 x2 x3 HQH
  go_wp2_with fail
  refine (HCA.out _ hB2).mono ?_
  rintro e w3 ⟨rfl, hb3⟩
  have hB3 := hB2.trans (hb3.mono hB2.size)
  clear HCA w1'
  by_cases hfa : fa = 0
  rotate_left
  · have h9 := HA2.out
    rw [if_pos hfa] at h9
    simp only [Option.some.injEq] at h9
    have HF := Lib.hid h9.symm
    have g2 : (fa != 0) = true := by simp [hfa]
    clear h9 hfa
    go_wp2
    go_ret3
    exact vof HF.out hB3
  subst hfa
  have hea := HEA.out rfl
  have h8 := HA2.out
  rw [if_neg (by simp)] at h8
  by_cases hla : ea < l.length
  rotate_left
  · rw [if_neg (by rw [mkAt_out hla]; simp)] at h8
    simp only [Option.some.injEq] at h8
    have HF := Lib.hid h8.symm
    have g2 : (l.length : Int) ≤ (ea : Int) := by omega
    clear h8 hla
    go_wp2
    go_ret3
    exact vof HF.out hB3
  have HL3 := Lib.hid ((sSlice sTok).below H0.out hB3)
  obtain ⟨ya, yc, yf, y0, y1, y2, y3, yR, -, -⟩ := tok_at HL3.out hla
  have HQ2 := spec_l7Is _ l[ea] yf w3 58 yR
  rw [isMk_def, ← mkAt_in hla] at HQ2
  have HQH := Lib.hid HQ2
  have g2 : ¬ (l.length : Int) ≤ (ea : Int) := by omega
  have j0 : (0 : Int) ≤ (ea : Int) := by omega
  have j1 : (ea : Int) < (l.length : Int) := by omega
  clear HQ2 yR
  cases hq : mkAt l ea [58]
  · rw [if_neg (by rw [hq]; simp)] at h8
    simp only [Option.some.injEq] at h8
    have HF := Lib.hid h8.symm
    rw [hq] at HQH
    clear h8 hq
    go_wp2_with fail
    refine HQH.out.mono ?_
    rintro e w4 ⟨rfl, hb4⟩
    go_wp2
    go_ret3
    exact vof HF.out (hB3.trans (hb4.mono hB3.size))
  rw [if_pos hq] at h8
  rw [hq] at HQH
  obtain ⟨b, hb1', hb2'⟩ := bind_some h8
  have HCB := Lib.hid (fun (Q : World) (hQ : Below w.heap.size w Q) => (IH d (by omega)).choice (ea + 1) b hla hb1' _ fp Q ((sSlice sTok).below H0.out hQ))
  unfold VOf at HCB
  obtain ⟨nb, eb, fb⟩ := b
  simp only [Option.some.injEq] at hb2'
  have HF := Lib.hid hb2'.symm
  have w2' : IntKind.i64.wrap ((ea : Int) + 1) = ((ea + 1 : Nat) : Int) := by rw [IntWalk.i64_in _ (by omega)]; omega
  try dsimp only at HCB HF
  clear h8 hb1' hb2' hq HA2
  go_wp2_with fail
  refine HQH.out.mono ?_
  rintro e w4 ⟨rfl, hb4⟩
  have hB4 := hB3.trans (hb4.mono hB3.size)
  clear y0 y1 y2 y3 HQH
  go_wp2_with fail
  refine (HCB.out _ hB4).mono ?_
  rintro e w5 ⟨rfl, hb5⟩
  have hB5 := hB4.trans (hb5.mono hB4.size)
  clear HCB w2'
  by_cases hn : n = 0
  · have HG : Hid (r = (nb, eb, fb)) := by show _ = _; rw [HF.out, if_neg (by simp [hn])]
    have g3 : (n != 0) = false := by simp [hn]
    clear HF hn
    go_wp2
    go_ret3
    exact vof HG.out hB5
  · have HG : Hid (r = (na, eb, fb)) := by show _ = _; rw [HF.out, if_pos hn]
    have g3 : (n != 0) = true := by simp [hn]
    clear HF hn
    go_wp2
    go_ret3
    exact vof HG.out hB5

theorem spec_VC {l : List Tok} (hl : l.length ≤ 100) : ∀ d, d ≤ 1000 → VC l d := by
  intro d
  induction d using Nat.strongRecOn with
  | ind d ih =>
    intro hd
    have IH : ∀ d', d' < d → VC l d' := fun d' h => ih d' h (by omega)
    exact ⟨fun k r h1 h2 v fp w H => one_walk hl hd IH k r h1 h2 v fp w H, fun k rank r h1 h3 h2 v fp w H => marks_walk hl hd IH k rank r h1 h3 h2 v fp w H, fun k r h1 h2 v fp w H => choice_walk hl hd IH k r h1 h2 v fp w H⟩
theorem val_bad {l : List Tok} (h : toksOk l = false) : valRes l = (0, 1) := by unfold valRes; rw [h]; rfl
theorem val_go {l : List Tok} {n : Int} {e : Nat} {f : Int} (h : toksOk l = true) (hp : pv l (4 * l.length + 4) (.choice 0) = some (n, e, f)) : valRes l = if f ≠ 0 then (0, f) else if e ≠ l.length then (0, 1) else (n, 0) := by
  unfold valRes; rw [if_pos h, hp]
def ValOf (r : Int × Int) (w : World) (e : Ending) (w' : World) : Prop := e = .returned (.tuple #[.int .i64 r.1, .int .i64 r.2]) ∧ Below w.heap.size w w'
theorem val_ret {r : Int × Int} {n c : Int} {w w' : World} (h : r = (n, c)) (hb : Below w.heap.size w w') : ValOf r w (.returned (.tuple #[.int .i64 n, .int .i64 c])) w' := ⟨by rw [h], hb⟩

set_option maxHeartbeats 8000000 in
set_option maxRecDepth 100000 in
theorem spec_ValueOf (v : Value) (l : List Tok) (fp : List Nat) (w : World) (H : (sSlice sTok).R w [v] l fp) : Calls Try.prog 15 #[v] w (ValOf (valRes l) w) := by
  have H0 := Lib.hid H
  have HV := Lib.hid (spec_TokensValid v l fp w H)
  obtain ⟨al, cl, rfl, hcl, hml, -⟩ := open_rows H
  unfold maxLen at hml
  clear H
  go_enter Try.func15, Try.ntmps15
  cases hv : toksOk l
  · have HF := Lib.hid (val_bad hv)
    rw [hv] at HV
    clear hv
    go_wp2_with fail
    refine HV.out.mono ?_
    rintro e w2 ⟨rfl, hb2⟩
    go_wp2
    go_ret2
    exact val_ret HF.out hb2
  have hl60 := (toksOk_facts hv).1
  obtain ⟨⟨n, e, f⟩, hp⟩ := pv_total l (4 * l.length + 4) (.choice 0) (Nat.zero_le _) (by show 4 * (l.length - 0) + 4 ≤ _; omega)
  have HGO := Lib.hid (val_go hv hp)
  have HFN := pv_fine l _ _ _ (show okQ l (.choice 0) from Nat.zero_le _) hp
  have HC := Lib.hid (fun (Q : World) (hQ : Below w.heap.size w Q) => (spec_VC (l := l) (by omega) (4 * l.length + 4) (by omega)).choice 0 _ (Nat.zero_le _) hp _ fp Q ((sSlice sTok).below H0.out hQ))
  unfold VOf at HC
  try dsimp only at HC
  rw [show ((0 : Nat) : Int) = 0 from rfl] at HC
  rw [hv] at HV
  clear hv hp HFN
  go_wp2_with fail
  refine HV.out.mono ?_
  rintro ee w2 ⟨rfl, hb2⟩
  go_wp2_with fail
  refine (HC.out _ hb2).mono ?_
  rintro ee w3 ⟨rfl, hb3⟩
  have hB3 := hb2.trans (hb3.mono hb2.size)
  clear HV HC
  by_cases hf : f = 0
  rotate_left
  · have HF : Hid (valRes l = (0, f)) := by show _ = _; rw [HGO.out, if_pos hf]
    have g1 : (f != 0) = true := by simp [hf]
    clear hf
    go_wp2
    go_ret2
    exact val_ret HF.out hB3
  subst hf
  by_cases he : e = l.length
  · have HF : Hid (valRes l = (n, 0)) := by show _ = _; rw [HGO.out, if_neg (by simp), if_neg (by simp [he])]
    have g1 : ((e : Int) != (l.length : Int)) = false := by simp [he]
    clear he
    go_wp2
    go_ret2
    exact val_ret HF.out hB3
  · have HF : Hid (valRes l = (0, 1)) := by show _ = _; rw [HGO.out, if_neg (by simp), if_pos he]
    have g1 : ((e : Int) != (l.length : Int)) = true := by simp; omega
    clear he
    go_wp2
    go_ret2
    exact val_ret HF.out hB3

end Go.Proofs.Ytiaiggjfepoahaa

/- Of the program: the reader of values: the next token's text, going on behind a mark, a number or a name. -/
namespace Go.Proofs.Ytiaiggjfepoahaa
open Go.RowKit

/-- The reader's box: the tokens, the place of the next one. -/
def RB (rb : Nat) (vL : Value) (k : Nat) (w : World) : Prop := w.heap[rb]? = some (.cells #[vL, .int .i64 (k : Nat)] 55 (0, 0))
theorem RB.below {rb : Nat} {vL : Value} {k : Nat} {w w' : World} (h : RB rb vL k w) (hb : Below w.heap.size w w') : RB rb vL k w' := mbox h hb
/-- The text of the next token. -/
def nextT (l : List Tok) (k : Nat) : ByteArray := if h : k < l.length then l[k].text else ⟨#[]⟩
theorem next_in {l : List Tok} {k : Nat} (h : k < l.length) : nextT l k = l[k].text := by unfold nextT; rw [dif_pos h]
theorem next_out {l : List Tok} {k : Nat} (h : ¬ k < l.length) : nextT l k = ⟨#[]⟩ := by unfold nextT; rw [dif_neg h]

set_option maxHeartbeats 4000000 in
set_option maxRecDepth 100000 in
theorem impl_next (rb : Nat) (vL : Value) (l : List Tok) (fp : List Nat) (k : Nat) (w : World) (hk : k ≤ l.length) (HB : RB rb vL k w) (H : (sSlice sTok).R w [vL] l fp) :
    Calls Try.prog 55 #[.pointer (some ⟨rb, 0, none⟩)] w fun e w' => e = .returned (.string (nextT l k)) ∧ Below w.heap.size w w' := by
  have H0 := Lib.hid H
  obtain ⟨al, cl, rfl, hcl, hml, hrow⟩ := open_rows H
  unfold maxLen at hml
  have HB0 := Lib.hid HB
  have p0 := cell_of_row w rb 0 _ _ _ HB
  have p1 := cell_of_row w rb 1 _ _ _ HB
  clear H HB
  go_enter Try.func55, Try.ntmps55
  by_cases hlt : k < l.length
  rotate_left
  · have HF := Lib.hid (next_out hlt)
    have e1 : ((k : Int) == (l.length : Int)) = true := by simp; omega
    clear hlt hrow
    go_wp2_with fail
    go_quiet (fail)
    have hbq := belowN (Below.refl w.heap.size w) nq
    generalize w.drewN nq = wq at *
    go_wp2
    go_ret
    exact ⟨by rw [HF.out] <;> rfl, hbq⟩
  have HF := Lib.hid (next_in hlt)
  obtain ⟨b1, o1, -, rfl, -, -, -⟩ := hrow (by omega)
  have e1 : ((k : Int) == (l.length : Int)) = false := by simp; omega
  have i0 : (0 : Int) ≤ (k : Int) := by omega
  have i1 : (k : Int) < (l.length : Int) := by omega
  clear hrow
  go_wp2_with fail
  go_quiet (fail)
  have hbq := belowN (Below.refl w.heap.size w) nq
  clear p0 p1
  generalize w.drewN nq = wq at *
  have HB1 := Lib.hid (HB0.out.below hbq)
  have p0 := cell_of_row wq rb 0 _ _ _ HB1.out
  have p1 := cell_of_row wq rb 1 _ _ _ HB1.out
  obtain ⟨xa, xc, xf, x0, x1, x2, x3, xR, hbb, -⟩ := tok_at ((sSlice sTok).below H0.out hbq) hlt
  clear xR
  go_wp2_with fail
  go_quiet (fail)
  have hbr := belowN hbq nq
  clear p0 p1 x0 x1 x2 x3
  generalize wq.drewN nq = wr at *
  go_wp2
  go_ret
  exact ⟨by rw [HF.out] <;> rfl, hbr⟩

theorem skip_eq {l : List Tok} {k : Nat} {c : UInt8} (ht : ∀ t ∈ l, tokOk t = true) (hc : cutKind c = 4) : ((nextT l k).toList == [c]) = mkAt l k [c] := by
  by_cases h : k < l.length
  · rw [next_in h, mkAt_in h, isMk_eq (ht _ (List.getElem_mem h)) hc]
  · rw [next_out h, mkAt_out h, ByteArray.toList_eq]; rfl

set_option maxHeartbeats 4000000 in
set_option maxRecDepth 100000 in
theorem impl_skip (rb : Nat) (vL : Value) (l : List Tok) (fp : List Nat) (k : Nat) (c : UInt8) (w : World) (hl : l.length ≤ 60) (ht : ∀ t ∈ l, tokOk t = true) (hc : cutKind c = 4) (hk : k ≤ l.length) (HB : RB rb vL k w) (H : (sSlice sTok).R w [vL] l fp) :
    Calls Try.prog 44 #[.pointer (some ⟨rb, 0, none⟩), .string ⟨#[c]⟩] w fun e w' => e = .returned (.bool (mkAt l k [c])) ∧ RB rb vL (if mkAt l k [c] = true then k + 1 else k) w' ∧ Kept [rb] w w' := by
  have HN := Lib.hid (impl_next rb vL l fp k w hk HB H)
  have HE := Lib.hid (skip_eq (l := l) (k := k) ht hc)
  have HB0 := Lib.hid HB
  clear H HB ht
  go_enter Try.func44, Try.ntmps44
  have he := HE.out
  obtain ⟨tx, HTX⟩ : ∃ tx : ByteArray, Hid (tx = nextT l k) := ⟨_, Lib.hid rfl⟩
  rw [show nextT l k = tx from HTX.out.symm] at HN he
  cases hm : mkAt l k [c]
  · rw [hm] at he
    have e1 : (tx.toList != [c]) = true := by rw [bne, he]; rfl
    clear hm
    go_wp2_with fail
    refine HN.out.mono ?_
    rintro e w2 ⟨rfl, hb2⟩
    have HB2 := Lib.hid (HB0.out.below hb2)
    go_wp2
    go_ret
    exact ⟨rfl, HB2.out, Kept.of_below hb2⟩
  · rw [hm] at he
    have e1 : (tx.toList != [c]) = false := by rw [bne, he]; rfl
    clear hm
    go_wp2_with fail
    refine HN.out.mono ?_
    rintro e w2 ⟨rfl, hb2⟩
    have HB2 := Lib.hid (HB0.out.below hb2)
    have p1 := cell_of_row w2 rb 1 _ _ _ HB2.out
    have f1 : w2.frozen? ⟨rb, 1, none⟩ = false := frozen_of_row _ _ 1 _ _ HB2.out
    have hwr : IntKind.i64.wrap ((k : Int) + 1) = (k : Int) + 1 := IntWalk.i64_in _ (by omega)
    have HB3 : Hid (RB rb vL (k + 1) (w2.setCell ⟨rb, 1, none⟩ (.int .i64 ((k : Int) + 1)))) := blk_set HB2.out 1 (.int .i64 ((k : Int) + 1))
    have HK3 : Hid (Kept [rb] w (w2.setCell ⟨rb, 1, none⟩ (.int .i64 ((k : Int) + 1)))) := (Kept.of_below hb2).setCell (p := ⟨rb, 1, none⟩) (by simp) _
    go_wp2
    go_ret
    exact ⟨rfl, HB3.out, HK3.out⟩

/-- What a function that reads a value hands back. -/
def VEnd (rb : Nat) (vL : Value) (l : List Tok) (r : VRes) (w : World) (e : Ending) (w' : World) : Prop :=
  ∃ (n : Int) (k : Nat), e = .returned (.tuple #[.int .i64 n, .int .i64 r.2.2]) ∧ (r.2.2 = 0 → n = r.1 ∧ k = r.2.1) ∧ inR n = true ∧ k ≤ l.length ∧ RB rb vL k w' ∧ Kept [rb] w w'
theorem vend {rb : Nat} {vL : Value} {l : List Tok} {r : VRes} {w w' : World} {n f : Int} {k : Nat} (hf : r.2.2 = f) (h : f = 0 → n = r.1 ∧ k = r.2.1) (hn : inR n = true) (hk : k ≤ l.length) (HB : RB rb vL k w') (HK : Kept [rb] w w') :
    VEnd rb vL l r w (.returned (.tuple #[.int .i64 n, .int .i64 f])) w' := ⟨n, k, by rw [hf], fun h' => h (hf ▸ h'), hn, hk, HB, HK⟩
/-- What word reads. -/
def wordR (l : List Tok) (k : Nat) : VRes :=
  if h : k < l.length then
    if l[k].kind = 1 then (0, k + 1, 0) else if l[k].kind = 2 ∧ 0 ≤ numRes l[k].text.toList then (numRes l[k].text.toList, k + 1, 0) else (0, k, 1)
  else (0, k, 1)

set_option maxHeartbeats 8000000 in
set_option maxRecDepth 100000 in
theorem impl_word (rb : Nat) (vL : Value) (l : List Tok) (fp : List Nat) (k : Nat) (w : World) (hl : l.length ≤ 60) (ht : ∀ t ∈ l, tokOk t = true) (hk : k ≤ l.length) (HB : RB rb vL k w) (H : (sSlice sTok).R w [vL] l fp) :
    Calls Try.prog 58 #[.pointer (some ⟨rb, 0, none⟩)] w (VEnd rb vL l (wordR l k) w) := by
  have H0 := Lib.hid H
  obtain ⟨al, cl, rfl, hcl, hml, hrow⟩ := open_rows H
  unfold maxLen at hml
  have HB0 := Lib.hid HB
  have p0 := cell_of_row w rb 0 _ _ _ HB
  have p1 := cell_of_row w rb 1 _ _ _ HB
  clear H HB
  go_enter Try.func58, Try.ntmps58
  by_cases hlt : k < l.length
  rotate_left
  · have HF : Hid (wordR l k = (0, k, 1)) := by show _ = _; unfold wordR; rw [dif_neg hlt]
    have e1 : ((k : Int) == (l.length : Int)) = true := by simp; omega
    clear hlt hrow
    go_wp2_with fail
    go_quiet (fail)
    have hbq := belowN (Below.refl w.heap.size w) nq
    clear p0 p1
    generalize w.drewN nq = wq at *
    have HB1 := Lib.hid (HB0.out.below hbq)
    go_wp2
    go_ret2
    exact vend (by rw [HF.out]) (fun h => absurd h (by decide)) (by decide) hk HB1.out (Kept.of_below hbq)
  obtain ⟨b1, o1, -, rfl, -, -, -⟩ := hrow (by omega)
  have hto := ht _ (List.getElem_mem hlt)
  obtain ⟨tk, HTK⟩ : ∃ tk : Tok, Hid (tk = l[k]) := ⟨_, Lib.hid rfl⟩
  have HW : Hid (wordR l k = if tk.kind = 1 then (0, k + 1, 0) else if tk.kind = 2 ∧ 0 ≤ numRes tk.text.toList then (numRes tk.text.toList, k + 1, 0) else (0, k, 1)) := by show _ = _; unfold wordR; rw [dif_pos hlt, HTK.out]
  rw [show l[k] = tk from HTK.out.symm] at hto
  have HTO := Lib.hid hto
  have e1 : ((k : Int) == (l.length : Int)) = false := by simp; omega
  have i0 : (0 : Int) ≤ (k : Int) := by omega
  have i1 : (k : Int) < (l.length : Int) := by omega
  clear hrow hto
  go_wp2_with fail
  go_quiet (fail)
  have hbq := belowN (Below.refl w.heap.size w) nq
  clear p0 p1 e1
  generalize w.drewN nq = w1 at *
  have HB1 := Lib.hid (HB0.out.below hbq)
  have p0 := cell_of_row w1 rb 0 _ _ _ HB1.out
  have p1 := cell_of_row w1 rb 1 _ _ _ HB1.out
  obtain ⟨xa, xc, xf, x0, x1, x2, x3, xR, hbb, -⟩ := tok_at ((sSlice sTok).below H0.out hbq) hlt
  rw [show l[k] = tk from HTK.out.symm] at x0 x1 x2 x3 xR
  have XR := Lib.hid xR
  clear xR
  -- REGION3
  have HSM : Hid (∀ Q : World, Below w1.heap.size w1 Q → Q.cell? ⟨rb, 0, none⟩ = some (.slice (some ⟨b1, o1, none⟩) l.length cl) ∧ Q.cell? ⟨rb, 1, none⟩ = some (.int .i64 (k : Nat)) ∧ Q.cell? ⟨b1, o1 + k * 4, none⟩ = some (.int .i64 tk.kind) ∧ Q.cell? ⟨b1, o1 + k * 4 + 1, none⟩ = some (.string tk.text) ∧ Q.cell? ⟨b1, o1 + k * 4 + 2, none⟩ = some (.bool tk.spaced) ∧ Q.cell? ⟨b1, o1 + k * 4 + 3, none⟩ = some (.slice xa tk.hidden.length xc)) := fun Q hQ => ⟨cell_of_row Q rb 0 _ _ _ (HB1.out.below hQ), cell_of_row Q rb 1 _ _ _ (HB1.out.below hQ), (hQ.cell (p := ⟨b1, o1 + k * 4, none⟩) hbb).trans x0, (hQ.cell (p := ⟨b1, o1 + k * 4 + 1, none⟩) hbb).trans x1, (hQ.cell (p := ⟨b1, o1 + k * 4 + 2, none⟩) hbb).trans x2, (hQ.cell (p := ⟨b1, o1 + k * 4 + 3, none⟩) hbb).trans x3⟩
  go_upto_region 3 with fail
  clear p0 p1 x0 x1 x2 x3
  have hcs : Below w1.heap.size w1 w1.drew := belowN (Below.refl _ _) 1
  refine wp_region_noPanic ?_
  refine wp_region_held_drew (S := fun w' => w'.cell? ⟨rb, 0, none⟩ = some (.slice (some ⟨b1, o1, none⟩) l.length cl) ∧ w'.cell? ⟨rb, 1, none⟩ = some (.int .i64 (k : Nat)) ∧ w'.cell? ⟨b1, o1 + k * 4, none⟩ = some (.int .i64 tk.kind) ∧ w'.cell? ⟨b1, o1 + k * 4 + 1, none⟩ = some (.string tk.text) ∧ w'.cell? ⟨b1, o1 + k * 4 + 2, none⟩ = some (.bool tk.spaced) ∧ w'.cell? ⟨b1, o1 + k * 4 + 3, none⟩ = some (.slice xa tk.hidden.length xc)) (by kernel_rfl) (by exact HSM.out _ hcs) (fun hHeld => ?_)
  generalize hwd : w1.drew = wd at *
  refine takeH2 0 16 (v := ?_) rfl rfl (by kernel_rfl) (by kernel_rfl) (by kernel_rfl) (fun _ _ _ h => h) (by rfl) (by assumption) ?_ ?_
  rotate_left
  · intro w hSw; go_simp; (first | done | with_reducible rfl | rfl)
  try simp only [Act.put, List.setIfInBounds_toArray, List.set_cons_zero, List.set_cons_succ]
  refine takeH2 1 17 (v := ?_) rfl rfl (by kernel_rfl) (by kernel_rfl) (by kernel_rfl) (fun _ _ _ h => h) (by rfl) (by assumption) ?_ ?_
  rotate_left
  · intro w hSw; go_simp; (first | done | with_reducible rfl | rfl)
  try simp only [Act.put, List.setIfInBounds_toArray, List.set_cons_zero, List.set_cons_succ]
  refine takeH2 2 18 (v := ?_) rfl rfl (by kernel_rfl) (by kernel_rfl) (by kernel_rfl) (fun _ _ _ h => h) (by rfl) (by assumption) ?_ ?_
  rotate_left
  · intro w hSw; go_simp; (first | done | with_reducible rfl | rfl)
  try simp only [Act.put, List.setIfInBounds_toArray, List.set_cons_zero, List.set_cons_succ]
  refine takeH2 3 19 (v := ?_) rfl rfl (by kernel_rfl) (by kernel_rfl) (by kernel_rfl) (fun _ _ _ h => h) (by rfl) (by assumption) ?_ ?_
  rotate_left
  · intro w hSw; obtain ⟨p0, p1, x0, x1, x2, x3⟩ := hSw; go_simp; (first | done | with_reducible rfl | rfl)
  try simp only [Act.put, List.setIfInBounds_toArray, List.set_cons_zero, List.set_cons_succ]
  refine takeH2 4 20 (v := ?_) rfl rfl (by kernel_rfl) (by kernel_rfl) (by kernel_rfl) (fun _ _ _ h => h) (by rfl) (by assumption) ?_ ?_
  rotate_left
  · intro w hSw; go_simp; (first | done | with_reducible rfl | rfl)
  try simp only [Act.put, List.setIfInBounds_toArray, List.set_cons_zero, List.set_cons_succ]
  refine takeH2 5 21 (v := ?_) rfl rfl (by kernel_rfl) (by kernel_rfl) (by kernel_rfl) (fun _ _ _ h => h) (by rfl) (by assumption) ?_ ?_
  rotate_left
  · intro w hSw; go_simp; (first | done | with_reducible rfl | rfl)
  try simp only [Act.put, List.setIfInBounds_toArray, List.set_cons_zero, List.set_cons_succ]
  refine takeH2 6 22 (v := ?_) rfl rfl (by kernel_rfl) (by kernel_rfl) (by kernel_rfl) (fun _ _ _ h => h) (by rfl) (by assumption) ?_ ?_
  rotate_left
  · intro w hSw; go_simp; (first | done | with_reducible rfl | rfl)
  try simp only [Act.put, List.setIfInBounds_toArray, List.set_cons_zero, List.set_cons_succ]
  refine takeH2 7 23 (v := ?_) rfl rfl (by kernel_rfl) (by kernel_rfl) (by kernel_rfl) (fun _ _ _ h => h) (by rfl) (by assumption) ?_ ?_
  rotate_left
  · intro w hSw; obtain ⟨p0, p1, x0, x1, x2, x3⟩ := hSw; go_simp; (first | done | with_reducible rfl | rfl)
  try simp only [Act.put, List.setIfInBounds_toArray, List.set_cons_zero, List.set_cons_succ]
  refine takeH2 8 24 (v := ?_) rfl rfl (by kernel_rfl) (by kernel_rfl) (by kernel_rfl) (fun _ _ _ h => h) (by rfl) (by assumption) ?_ ?_
  rotate_left
  · intro w hSw; go_simp; (first | done | with_reducible rfl | rfl)
  try simp only [Act.put, List.setIfInBounds_toArray, List.set_cons_zero, List.set_cons_succ]
  refine takeH2 9 25 (v := ?_) rfl rfl (by kernel_rfl) (by kernel_rfl) (by kernel_rfl) (fun _ _ _ h => h) (by rfl) (by assumption) ?_ ?_
  rotate_left
  · intro w hSw; obtain ⟨p0, p1, x0, x1, x2, x3⟩ := hSw; go_simp; (first | done | with_reducible rfl | rfl)
  try simp only [Act.put, List.setIfInBounds_toArray, List.set_cons_zero, List.set_cons_succ]
  have ba := alloc_below' wd (.cells #[.int .i64 0, .string ⟨#[]⟩, .bool false, .slice none 0 0] 36)
  have HZ := Lib.hid (heap_alloc_new wd (.cells #[.int .i64 0, .string ⟨#[]⟩, .bool false, .slice none 0 0] 36))
  have hx := hcs.trans (ba.mono hcs.size)
  -- MARK1
  refine wpAnyH_ready (rs := [10]) (by kernel_rfl) (by simp) ?_
  refine AllReadyH.cons rfl (fun K hK => ?_) AllReadyH.nil
  go_simp
  refine hK.out _ _ (HSM.out _ hx) (fun hHeld => ?_)
  clear hK K
  try simp only [Act.put, List.setIfInBounds_toArray, List.set_cons_zero, List.set_cons_succ]
  have hgs : w1.heap.size ≤ wd.heap.size := hcs.size
  generalize hwa : wd.alloc (.cells #[.int .i64 0, .string ⟨#[]⟩, .bool false, .slice none 0 0] 36) = wa at *
  have z0 := cell_of_row wa wd.heap.size 0 _ _ _ HZ.out
  have zf0 : wa.frozen? ⟨wd.heap.size, 0, none⟩ = false := frozen_of_row _ _ 0 _ _ HZ.out
  have z1 := cell_of_row wa wd.heap.size 1 _ _ _ HZ.out
  have zf1 : wa.frozen? ⟨wd.heap.size, 1, none⟩ = false := frozen_of_row _ _ 1 _ _ HZ.out
  have z2 := cell_of_row wa wd.heap.size 2 _ _ _ HZ.out
  have zf2 : wa.frozen? ⟨wd.heap.size, 2, none⟩ = false := frozen_of_row _ _ 2 _ _ HZ.out
  have z3 := cell_of_row wa wd.heap.size 3 _ _ _ HZ.out
  have zf3 : wa.frozen? ⟨wd.heap.size, 3, none⟩ = false := frozen_of_row _ _ 3 _ _ HZ.out
  have HX := Lib.hid (set4_at HZ.out (.int .i64 tk.kind) (.string tk.text) (.bool tk.spaced) (.slice xa tk.hidden.length xc))
  have HS4 := Lib.hid (set4_below hx hgs (.int .i64 tk.kind) (.string tk.text) (.bool tk.spaced) (.slice xa tk.hidden.length xc))
  have HH4 := Lib.hid (HSM.out _ HS4.out)
  unfold set4 at HX HS4 HH4
  -- MARK2
  refine wpAnyH_ready (rs := [11]) (by kernel_rfl) (by simp) ?_
  refine AllReadyH.cons rfl (fun K hK => ?_) AllReadyH.nil
  go_simp
  refine hK.out _ _ (HH4.out) (fun hHeld => ?_)
  clear hK K
  try simp only [Act.put, List.setIfInBounds_toArray, List.set_cons_zero, List.set_cons_succ]
  -- MARK3
  refine wpAnyH_done (by kernel_rfl) ?_ _
  refine NoPanic.normal ?_
  clear hHeld
  have hrl : rb < w1.heap.size := mlt HB1.out
  have hnr : wd.heap.size ≠ rb := by omega
  have hok : okStr tk.text := XR.out.choose_spec.2.2.1
  have HDB := Lib.hid (HB1.out.below HS4.out)
  have HD := Lib.hid (hbq.trans (HS4.out.mono hbq.size))
  clear z0 z1 z2 z3 zf0 zf1 zf2 zf3 HH4 HS4 HB1
  generalize hW1 : ((((wa.setCell ⟨wd.heap.size, 0, none⟩ (.int .i64 tk.kind)).setCell ⟨wd.heap.size, 1, none⟩ (.string tk.text)).setCell ⟨wd.heap.size, 2, none⟩ (.bool tk.spaced)).setCell ⟨wd.heap.size, 3, none⟩ (.slice xa tk.hidden.length xc)) = W1 at *
  have HB1 := HDB
  have p1 := cell_of_row W1 rb 1 _ _ _ HB1.out
  have f1 : W1.frozen? ⟨rb, 1, none⟩ = false := frozen_of_row _ _ 1 _ _ HB1.out
  have hwr : IntKind.i64.wrap ((k : Int) + 1) = (k : Int) + 1 := IntWalk.i64_in _ (by omega)
  have HB3 : Hid (RB rb (.slice (some ⟨b1, o1, none⟩) l.length cl) (k + 1) (W1.setCell ⟨rb, 1, none⟩ (.int .i64 ((k : Int) + 1)))) := blk_set HB1.out 1 (.int .i64 ((k : Int) + 1))
  have HK3 : Hid (Kept [rb] w (W1.setCell ⟨rb, 1, none⟩ (.int .i64 ((k : Int) + 1)))) := (Kept.of_below HD.out).setCell (p := ⟨rb, 1, none⟩) (by simp) _
  have HX3 := Lib.hid (blk_other HX.out hnr 1 (.int .i64 ((k : Int) + 1)))
  go_upto_region 5 with fail
  clear p1 f1 hwr HX HB1
  generalize (W1.setCell ⟨rb, 1, none⟩ (.int .i64 ((k : Int) + 1))) = W2 at *
  have q0 := cell_of_row W2 wd.heap.size 0 _ _ _ HX3.out
  have q1 := cell_of_row W2 wd.heap.size 1 _ _ _ HX3.out
  by_cases k1 : tk.kind = 1
  · have HF : Hid (wordR l k = (0, k + 1, 0)) := by show _ = _; rw [HW.out, if_pos k1]
    have e1 : (tk.kind == 1) = true := by simp [k1]
    clear k1
    go_wp2
    go_ret2
    exact vend (by rw [HF.out]) (fun _ => by rw [HF.out]; exact ⟨rfl, rfl⟩) (by decide) hlt HB3.out HK3.out
  have e1 : (tk.kind == 1) = false := by simp [k1]
  have HNU := Lib.hid (number_same tk.text W2 hok)
  have hni := numRes_in tk.text.toList
  by_cases k2 : tk.kind = 2 ∧ 0 ≤ numRes tk.text.toList
  · have HF : Hid (wordR l k = (numRes tk.text.toList, k + 1, 0)) := by show _ = _; rw [HW.out, if_neg k1, if_pos k2]
    obtain ⟨n, HN⟩ : ∃ n : Int, Hid (n = numRes tk.text.toList) := ⟨_, Lib.hid rfl⟩
    rw [show numRes tk.text.toList = n from HN.out.symm] at HNU HF hni k2
    have e2 : decide (n < 0) = false := decide_eq_false (by omega)
    have HIN : Hid (inR n = true) := inR_iff.2 (by omega)
    clear k1 k2 HW
    go_wp2_with fail
    refine HNU.out.mono ?_
    rintro e w5 ⟨rfl, rfl⟩
    go_wp2
    go_ret2
    exact vend (by rw [HF.out]) (fun _ => by rw [HF.out]; exact ⟨rfl, rfl⟩) HIN.out hlt HB3.out HK3.out
  · have HF : Hid (wordR l k = (0, k, 1)) := by show _ = _; rw [HW.out, if_neg k1, if_neg k2]
    have hneg : numRes tk.text.toList < 0 := by
      by_cases k3 : tk.kind = 2
      · have := fun h => k2 ⟨k3, h⟩
        omega
      · rw [num_other HTO.out k3]; decide
    obtain ⟨n, HN⟩ : ∃ n : Int, Hid (n = numRes tk.text.toList) := ⟨_, Lib.hid rfl⟩
    rw [show numRes tk.text.toList = n from HN.out.symm] at HNU hni hneg
    have e2 : decide (n < 0) = true := decide_eq_true hneg
    clear k1 k2 HW
    go_wp2_with fail
    refine HNU.out.mono ?_
    rintro e w5 ⟨rfl, rfl⟩
    go_wp2
    go_ret2
    exact vend (by rw [HF.out]) (fun h => absurd h (by decide)) (by decide) hlt HB3.out HK3.out

end Go.Proofs.Ytiaiggjfepoahaa
