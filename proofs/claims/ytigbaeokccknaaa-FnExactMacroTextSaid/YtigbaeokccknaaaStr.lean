/- Slices of strings: validity, and the law's own helpers. -/
import Derived.Test.YtigbaeokccknaaaLine
import Derived.Test.YtigbaeokccknaaaShape
import Derived.Outline
import Derived.Deep.QuietTactic
import Derived.BigQuiet
namespace Go.Proofs.Ytigbaeokccknaaa
open Go.RowKit

def linesOk (l : List ByteArray) : Bool := decide (l.length ≤ 40) && l.all lineOk
def AllUpto {α : Type} (p : α → Bool) (l : List α) (k : Nat) : Prop := ∀ j, (h : j < l.length) → j < k → p l[j] = true
theorem AllUpto.zero {α : Type} (p : α → Bool) (l : List α) : AllUpto p l 0 := by intro j h; omega
theorem AllUpto.succ {α : Type} {p : α → Bool} {l : List α} {k : Nat} (h : AllUpto p l k) (hk : k < l.length) (hb : p l[k] = true) : AllUpto p l (k + 1) := by
  intro j hj hjk
  by_cases e : j = k
  · subst e; exact hb
  · exact h j hj (by omega)
theorem all_no {α : Type} {p : α → Bool} {l : List α} {k : Nat} (hk : k < l.length) (hb : p l[k] = false) : l.all p = false := by
  rw [List.all_eq_false]
  exact ⟨l[k], List.getElem_mem hk, by simp [hb]⟩
theorem all_yes {α : Type} {p : α → Bool} {l : List α} {k : Nat} (h : AllUpto p l k) (hk : l.length ≤ k) : l.all p = true := by
  rw [List.all_eq_true]
  intro x hx
  obtain ⟨i, hi, rfl⟩ := List.getElem_of_mem hx
  exact h i hi (by omega)

/-- How much a list of texts weighs for the law's bound. -/
def wtStringS (l : List ByteArray) : Nat := l.length + (l.map (·.size)).sum
theorem sum_take_succ (l : List ByteArray) (k : Nat) (h : k < l.length) : ((l.take (k + 1)).map (·.size)).sum = ((l.take k).map (·.size)).sum + l[k].size := by
  rw [List.take_succ_eq_append_getElem h]; simp only [List.map_append, List.sum_append, List.map_cons, List.map_nil, List.sum_cons, List.sum_nil, Nat.add_zero]
theorem sum_take_le (l : List ByteArray) (k : Nat) : ((l.take k).map (·.size)).sum ≤ (l.map (·.size)).sum := by
  have := congrArg (fun l : List ByteArray => (l.map (·.size)).sum) (List.take_append_drop k l)
  simp only [List.map_append, List.sum_append] at this
  omega
def SzR (B r : Int) (n : Nat) : Prop := r = if (n : Int) ≤ B then B - n else -1
theorem SzR.good {B r : Int} {n : Nat} (h : SzR B r n) (h0 : ¬ r < 0) : (n : Int) ≤ B ∧ r = B - n := by
  unfold SzR at h; split at h <;> constructor <;> omega
theorem SzR.le {B r : Int} {n : Nat} (h : SzR B r n) (hB : 0 ≤ B) : r ≤ B := by unfold SzR at h; split at h <;> omega
theorem SzR.yes {B r : Int} {n : Nat} (h : (n : Int) ≤ B) (hr : r = B - n) : SzR B r n := by unfold SzR; rw [if_pos h]; exact hr
theorem SzR.no {B : Int} {n : Nat} (h : B < (n : Int)) : SzR B (-1) n := by unfold SzR; rw [if_neg (by omega)]

set_option maxHeartbeats 400000 in
theorem szStringS (v : Value) (l : List ByteArray) (fp : List Nat) (w : World) (B : Int) (h0 : 0 ≤ B) (h1 : B ≤ 1048576) (H : (sSlice sStr).R w [v] l fp) :
    Calls Try.prog 57 #[v, .int .i64 B] w fun e w' => ∃ r : Int, e = .returned (.int .i64 r) ∧ SzR B r (wtStringS l) ∧ w = w' := by
  obtain ⟨a, cap, rfl, hc, hm, hcell, hsz⟩ := open_strs H
  unfold maxLen at hm
  by_cases hl : B < l.length
  · have HN : Hid (SzR B (-1) (wtStringS l)) := SzR.no (by unfold wtStringS; omega)
    go_enter Try.func57, Try.ntmps57
    go_wp2
    go_ret
    exact ⟨-1, rfl, HN.out, rfl⟩
  · go_enter Try.func57, Try.ntmps57
    go_wp2
    go_loop [1, 5] (fun t i => ∃ (k : Nat) (r : Int), k ≤ l.length ∧ i = .int .i64 k ∧ t = .int .i64 r ∧ 0 ≤ r ∧ r ≤ B ∧ Hid (r = B - l.length - (((l.take k).map (·.size)).sum : Nat))) (fun _ i => l.length - (intOf i).toNat)
    case atStart => exact ⟨0, _, by omega, rfl, rfl, by omega, by omega, by show _ = _; simp⟩
    case round =>
      obtain ⟨k, r, hk, rfl, rfl, hr0, hr1, HA⟩ := hrel
      by_cases hlt : k < l.length
      · obtain ⟨b, off, rfl, hb, _, hc2⟩ := hcell (by omega)
        have hck := hc2 k hlt
        have hsk := hsz k hlt
        unfold maxLen at hsk
        clear hc2
        have HT := Lib.hid (sum_take_succ l k hlt)
        by_cases hrk : r < (l[k].size : Int)
        · have HN : Hid (SzR B (-1) (wtStringS l)) := SzR.no (by
            have := sum_take_le l (k + 1); have := HT.out; have := HA.out; unfold wtStringS; omega)
          go_wp2
          go_ret
          exact ⟨-1, rfl, HN.out, rfl⟩
        · go_wp2
          go_round
          case rel => exact ⟨k + 1, _, by omega, by go_num, rfl, by omega, by omega, by show _ = _; rw [HT.out, HA.out]; omega⟩
          case measure => simp [intOf]; omega
      · have HN : Hid (SzR B r (wtStringS l)) := by
          have h := HA.out
          rw [List.take_of_length_le (by omega)] at h
          exact SzR.yes (by unfold wtStringS; omega) (by unfold wtStringS; omega)
        go_wp2
        go_ret
        exact ⟨r, rfl, HN.out, rfl⟩

theorem drewN_zero (w : World) : w.drewN 0 = w := rfl

def EqUpto {α : Type} (l1 l2 : List α) (k : Nat) : Prop := ∀ j, (h : j < l1.length) → (h' : j < l2.length) → j < k → l1[j] = l2[j]
theorem EqUpto.succ {α : Type} {l1 l2 : List α} {k : Nat} (h : EqUpto l1 l2 k) (h1 : k < l1.length) (h2 : k < l2.length) (e : l1[k] = l2[k]) : EqUpto l1 l2 (k + 1) := by
  intro j hj hj' hjk
  by_cases e' : j = k
  · subst e'; exact e
  · exact h j hj hj' (by omega)
theorem EqUpto.eq {α : Type} [DecidableEq α] {l1 l2 : List α} {k : Nat} (h : EqUpto l1 l2 k) (hl : l1.length = l2.length) (hk : l1.length ≤ k) : decide (l1 = l2) = true := by
  rw [decide_eq_true_eq]
  exact List.ext_getElem hl fun i h1 h2 => h i h1 h2 (by omega)
theorem eq_no {α : Type} [DecidableEq α] {l1 l2 : List α} {k : Nat} (h1 : k < l1.length) (h2 : k < l2.length) (e : l1[k] ≠ l2[k]) : decide (l1 = l2) = false := by
  rw [decide_eq_false_iff_not]; rintro rfl; exact e rfl

theorem bytes_beq {s t : ByteArray} (h : s = t) : (s.toList == t.toList) = true := by rw [h]; exact beq_self_eq_true _
theorem bytes_bne {s t : ByteArray} (h : s ≠ t) : (s.toList == t.toList) = false := by
  rw [beq_eq_false_iff_ne]
  intro e
  rw [ByteArray.toList_eq, ByteArray.toList_eq] at e
  exact h (Go.WideShapes.bytes_inj e)

set_option maxHeartbeats 400000 in
theorem eqStringS (v1 v2 : Value) (l1 l2 : List ByteArray) (fp1 fp2 : List Nat) (w : World) (H1 : (sSlice sStr).R w [v1] l1 fp1) (H2 : (sSlice sStr).R w [v2] l2 fp2) :
    Calls Try.prog 59 #[v1, v2] w fun e w' => e = .returned (.bool (decide (l1 = l2))) ∧ ∃ n, w' = w.drewN n := by
  obtain ⟨a1, cap1, rfl, hc1, hm1, hcell1, hsz1⟩ := open_strs H1
  obtain ⟨a2, cap2, rfl, hc2, hm2, hcell2, hsz2⟩ := open_strs H2
  unfold maxLen at hm1 hm2
  by_cases hl : l1.length = l2.length
  · have hnb : ((l1.length : Int) != (l2.length : Int)) = false := by simp [hl]
    have HL := Lib.hid hl; clear hl
    go_enter Try.func59, Try.ntmps59
    go_wp2
    go_loopw [5] (fun i wr => ∃ k : Nat, k ≤ l1.length ∧ i = .int .i64 k ∧ (∃ n, wr = w.drewN n) ∧ EqUpto l1 l2 k) (fun i _ => l1.length - (intOf i).toNat)
    case atStart => exact ⟨0, by omega, rfl, ⟨0, rfl⟩, by intro j h h' hj; omega⟩
    case round =>
      obtain ⟨k, hk, rfl, ⟨n, rfl⟩, hall⟩ := hrel
      by_cases hlt : k < l1.length
      · have hlt2 : k < l2.length := by have := HL.out; omega
        obtain ⟨b1, off1, rfl, hb1, _, hd1⟩ := hcell1 (by omega)
        obtain ⟨b2, off2, rfl, hb2, _, hd2⟩ := hcell2 (by omega)
        have hck1 := hd1 k hlt
        have hck2 := hd2 k hlt2
        clear hd1 hd2
        by_cases heq : l1[k] = l2[k]
        · have hne := bytes_beq heq
          have hn := hall.succ hlt hlt2 heq
          clear heq
          go_wp2
          go_quiet (fail)
          go_wp2
          go_roundw
          case rel => exact ⟨k + 1, by omega, by go_num, ⟨_, rfl⟩, hn⟩
          case measure => simp [intOf]; omega
        · have hne := bytes_bne heq
          have HF := Lib.hid (eq_no hlt hlt2 heq)
          clear heq
          go_wp2
          go_quiet (fail)
          go_wp2
          go_ret
          exact ⟨ret_bool HF.out.symm, _, World.drewN_drewN _ _ _⟩
      · have HF := Lib.hid (hall.eq HL.out (by omega))
        go_wp2
        go_ret
        exact ⟨ret_bool HF.out.symm, _, rfl⟩
  · have hnb : ((l1.length : Int) != (l2.length : Int)) = true := by simp; omega
    have HF : Hid (decide (l1 = l2) = false) := decide_eq_false (by rintro rfl; exact hl rfl)
    clear hl
    go_enter Try.func59, Try.ntmps59
    go_wp2
    go_ret
    exact ⟨ret_bool HF.out.symm, 0, rfl⟩

end Go.Proofs.Ytigbaeokccknaaa
