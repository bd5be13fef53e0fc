/- Slices of strings: validity, and the law's own helpers. -/
import Derived.Test.YtegpienbgmfghaaLine
import Derived.Test.YtegpienbgmfghaaShape
import Derived.Outline
import Derived.Deep.QuietTactic
import Derived.BigQuiet
namespace Go.Proofs.Ytegpienbgmfghaa
open Go.RowKit

def linesOk (l : List ByteArray) : Bool := decide (l.length ≤ 40) && l.all lineOk
def AllUpto {α : Type} (p : α → Bool) (l : List α) (k : Nat) : Prop := ∀ j, (h : j < l.length) → j < k → p l[j] = true
theorem AllUpto.zero {α : Type} (p : α → Bool) (l : List α) : AllUpto p l 0 := by intro j h; omega
theorem AllUpto.succ {α : Type} {p : α → Bool} {l : List α} {k : Nat} (h : AllUpto p l k) (hk : k < l.length) (hb : p l[k] = true) : AllUpto p l (k + 1) := by
  intro j hj hjk
  by_cases e : j = k
  · subst e; exact hb
  · exact h j hj (by omega)
theorem all_no {α : Type} {p : α → Bool} {l : List α} {k : Nat} (hk : k < l.length) (hb : p l[k] = false) : l.all p = false := by
  rw [List.all_eq_false]
  exact ⟨l[k], List.getElem_mem hk, by simp [hb]⟩
theorem all_yes {α : Type} {p : α → Bool} {l : List α} {k : Nat} (h : AllUpto p l k) (hk : l.length ≤ k) : l.all p = true := by
  rw [List.all_eq_true]
  intro x hx
  obtain ⟨i, hi, rfl⟩ := List.getElem_of_mem hx
  exact h i hi (by omega)

set_option maxHeartbeats 400000 in
theorem spec_LinesValid (v : Value) (l : List ByteArray) (fp : List Nat) (w : World) (H : (sSlice sStr).R w [v] l fp) :
    Calls Try.prog 14 #[v] w fun e w' => e = .returned (.bool (linesOk l)) ∧ w = w' := by
  obtain ⟨a, cap, rfl, hc, hm, hcell, hsz⟩ := open_strs H
  unfold maxLen at hm
  go_enter Try.func14, Try.ntmps14
  go_wp2
  go_loop [3] (fun i => ∃ k : Nat, k ≤ l.length ∧ i = .int .i64 k ∧ AllUpto lineOk l k) (fun i => l.length - (intOf i).toNat)
  case atStart => exact ⟨0, by omega, rfl, AllUpto.zero _ _⟩
  case round =>
    obtain ⟨k, hk, rfl, hall⟩ := hrel
    by_cases hlt : k < l.length
    · obtain ⟨b, off, rfl, hb, _, hc2⟩ := hcell (by omega)
      have hck := hc2 k hlt
      have hsk := hsz k hlt
      clear hc2
      cases hv : lineOk l[k]
      · have HF := Lib.hid (all_no hlt hv)
        go_wp2_with (go_at_call 10; refine (spec_LineValid _ _ hsk).mono ?_; rintro e w' ⟨rfl, rfl⟩)
        go_ret
        exact ⟨ret_bool (by unfold linesOk; rw [HF.out]; simp), rfl⟩
      · have hn := hall.succ hlt hv
        go_wp2_with (go_at_call 10; refine (spec_LineValid _ _ hsk).mono ?_; rintro e w' ⟨rfl, rfl⟩)
        go_round
        case rel => exact ⟨k + 1, by omega, by go_num, hn⟩
        case measure => simp [intOf]; omega
    · have HF := Lib.hid (all_yes hall (by omega))
      go_wp2
      go_ret
      exact ⟨ret_bool (by unfold linesOk; rw [HF.out, Bool.and_true]; exact decide_eq_decide.2 (by omega)), rfl⟩

set_option maxHeartbeats 400000 in
theorem impl_LinesValid (v : Value) (l : List ByteArray) (fp : List Nat) (w : World) (H : (sSlice sStr).R w [v] l fp) :
    Calls Try.prog 13 #[v] w fun e w' => e = .returned (.bool (linesOk l)) ∧ w = w' := by
  obtain ⟨a, cap, rfl, hc, hm, hcell, hsz⟩ := open_strs H
  unfold maxLen at hm
  by_cases hl : 40 < l.length
  · go_enter Try.func13, Try.ntmps13
    go_wp2
    go_ret
    exact ⟨ret_bool (by unfold linesOk; rw [decide_eq_false (by omega)]; rfl), rfl⟩
  · go_enter Try.func13, Try.ntmps13
    go_wp2
    go_loop [10] (fun i => ∃ k : Nat, k ≤ l.length ∧ i = .int .i64 k ∧ AllUpto lineOk l k) (fun i => l.length - (intOf i).toNat)
    case atStart => exact ⟨0, by omega, rfl, AllUpto.zero _ _⟩
    case round =>
      obtain ⟨k, hk, rfl, hall⟩ := hrel
      by_cases hlt : k < l.length
      · obtain ⟨b, off, rfl, hb, _, hc2⟩ := hcell (by omega)
        have hck := hc2 k hlt
        have hsk := hsz k hlt
        clear hc2
        cases hv : lineOk l[k]
        · have HF := Lib.hid (all_no hlt hv)
          go_wp2_with (go_at_call 9; refine (impl_LineValid _ _ hsk).mono ?_; rintro e w' ⟨rfl, rfl⟩)
          go_ret
          exact ⟨ret_bool (by unfold linesOk; rw [HF.out]; simp), rfl⟩
        · have hn := hall.succ hlt hv
          go_wp2_with (go_at_call 9; refine (impl_LineValid _ _ hsk).mono ?_; rintro e w' ⟨rfl, rfl⟩)
          go_round
          case rel => exact ⟨k + 1, by omega, by go_num, hn⟩
          case measure => simp [intOf]; omega
      · have HF := Lib.hid (all_yes hall (by omega))
        go_wp2
        go_ret
        exact ⟨ret_bool (by unfold linesOk; rw [HF.out, Bool.and_true]; exact (decide_eq_true (by omega)).symm), rfl⟩

/-- How much a list of texts weighs for the law's bound. -/
def wtStringS (l : List ByteArray) : Nat := l.length + (l.map (·.size)).sum
theorem sum_take_succ (l : List ByteArray) (k : Nat) (h : k < l.length) : ((l.take (k + 1)).map (·.size)).sum = ((l.take k).map (·.size)).sum + l[k].size := by
  rw [List.take_succ_eq_append_getElem h]; simp only [List.map_append, List.sum_append, List.map_cons, List.map_nil, List.sum_cons, List.sum_nil, Nat.add_zero]
theorem sum_take_le (l : List ByteArray) (k : Nat) : ((l.take k).map (·.size)).sum ≤ (l.map (·.size)).sum := by
  have := congrArg (fun l : List ByteArray => (l.map (·.size)).sum) (List.take_append_drop k l)
  simp only [List.map_append, List.sum_append] at this
  omega
def SzR (B r : Int) (n : Nat) : Prop := r = if (n : Int) ≤ B then B - n else -1
theorem SzR.good {B r : Int} {n : Nat} (h : SzR B r n) (h0 : ¬ r < 0) : (n : Int) ≤ B ∧ r = B - n := by
  unfold SzR at h; split at h <;> constructor <;> omega
theorem SzR.le {B r : Int} {n : Nat} (h : SzR B r n) (hB : 0 ≤ B) : r ≤ B := by unfold SzR at h; split at h <;> omega
theorem SzR.yes {B r : Int} {n : Nat} (h : (n : Int) ≤ B) (hr : r = B - n) : SzR B r n := by unfold SzR; rw [if_pos h]; exact hr
theorem SzR.no {B : Int} {n : Nat} (h : B < (n : Int)) : SzR B (-1) n := by unfold SzR; rw [if_neg (by omega)]

theorem drewN_zero (w : World) : w.drewN 0 = w := rfl

def EqUpto {α : Type} (l1 l2 : List α) (k : Nat) : Prop := ∀ j, (h : j < l1.length) → (h' : j < l2.length) → j < k → l1[j] = l2[j]
theorem EqUpto.succ {α : Type} {l1 l2 : List α} {k : Nat} (h : EqUpto l1 l2 k) (h1 : k < l1.length) (h2 : k < l2.length) (e : l1[k] = l2[k]) : EqUpto l1 l2 (k + 1) := by
  intro j hj hj' hjk
  by_cases e' : j = k
  · subst e'; exact e
  · exact h j hj hj' (by omega)
theorem EqUpto.eq {α : Type} [DecidableEq α] {l1 l2 : List α} {k : Nat} (h : EqUpto l1 l2 k) (hl : l1.length = l2.length) (hk : l1.length ≤ k) : decide (l1 = l2) = true := by
  rw [decide_eq_true_eq]
  exact List.ext_getElem hl fun i h1 h2 => h i h1 h2 (by omega)
theorem eq_no {α : Type} [DecidableEq α] {l1 l2 : List α} {k : Nat} (h1 : k < l1.length) (h2 : k < l2.length) (e : l1[k] ≠ l2[k]) : decide (l1 = l2) = false := by
  rw [decide_eq_false_iff_not]; rintro rfl; exact e rfl

theorem bytes_beq {s t : ByteArray} (h : s = t) : (s.toList == t.toList) = true := by rw [h]; exact beq_self_eq_true _
theorem bytes_bne {s t : ByteArray} (h : s ≠ t) : (s.toList == t.toList) = false := by
  rw [beq_eq_false_iff_ne]
  intro e
  rw [ByteArray.toList_eq, ByteArray.toList_eq] at e
  exact h (Go.WideShapes.bytes_inj e)

end Go.Proofs.Ytegpienbgmfghaa
