/- LineValid of the program and of its model answer alike for every text. -/
import Derived.Test.YtigbaeokccknaaaLib
namespace Go.Proofs.Ytigbaeokccknaaa
open Go.RowKit

def okByte (c : UInt8) : Bool := 32 ≤ c && c ≤ 126
def lineOk (s : ByteArray) : Bool := decide (s.size ≤ 200) && s.data.toList.all okByte

theorem okByte_iff (c : UInt8) : okByte c = true ↔ 32 ≤ c.toNat ∧ c.toNat ≤ 126 := by
  simp [okByte, UInt8.le_iff_toNat_le]

def OkUpto (s : ByteArray) (k : Nat) : Prop := ∀ j, (h : j < s.size) → j < k → okByte s[j] = true

theorem OkUpto.zero (s : ByteArray) : OkUpto s 0 := by intro j h; omega
theorem OkUpto.succ {s : ByteArray} {k : Nat} (h : OkUpto s k) (hk : k < s.size) (hb : 32 ≤ (s[k].toNat : Int) ∧ (s[k].toNat : Int) ≤ 126) : OkUpto s (k + 1) := by
  intro j hj hjk
  by_cases e : j = k
  · subst e; rw [okByte_iff]; omega
  · exact h j hj (by omega)

theorem lineOk_no {s : ByteArray} {k : Nat} (hk : k < s.size) (hb : ¬ (32 ≤ (s[k].toNat : Int) ∧ (s[k].toNat : Int) ≤ 126)) : lineOk s = false := by
  unfold lineOk
  have : s.data.toList.all okByte = false := by
    rw [List.all_eq_false]
    refine ⟨s[k], ?_, ?_⟩
    · simp [ByteArray.getElem_eq_getElem_data]
    · rw [okByte_iff]; omega
  rw [this, Bool.and_false]

theorem lineOk_long {s : ByteArray} (h : 200 < s.size) : lineOk s = false := by
  unfold lineOk; rw [decide_eq_false (by omega), Bool.false_and]

theorem lineOk_yes {s : ByteArray} {k : Nat} (h : OkUpto s k) (hk : s.size ≤ k) : lineOk s = decide (s.size ≤ 200) := by
  unfold lineOk
  have : s.data.toList.all okByte = true := by
    rw [List.all_eq_true]
    intro x hx
    obtain ⟨i, hi, rfl⟩ := List.getElem_of_mem hx
    have hi' : i < s.size := by simpa using hi
    have := h i hi' (by omega)
    simpa [ByteArray.getElem_eq_getElem_data] using this
  rw [this, Bool.and_true]

theorem ret_bool {a b : Bool} (h : a = b) : Ending.returned (.bool a) = .returned (.bool b) := by rw [h]

set_option maxHeartbeats 400000 in
theorem spec_LineValid (s : ByteArray) (w : World) (hs : s.size ≤ maxLen) :
    Calls Try.prog 83 #[.string s] w fun e w' => e = .returned (.bool (lineOk s)) ∧ w = w' := by
  unfold maxLen at hs
  go_enter Try.func83, Try.ntmps83
  go_wp2
  go_loop [3] (fun i => ∃ k : Nat, k ≤ s.size ∧ i = .int .i64 k ∧ OkUpto s k) (fun i => s.size - (intOf i).toNat)
  case atStart => exact ⟨0, by omega, rfl, OkUpto.zero s⟩
  case round =>
    obtain ⟨k, hk, rfl, hall⟩ := hrel
    by_cases hlt : k < s.size
    · by_cases hb : 32 ≤ (s[k].toNat : Int) ∧ (s[k].toNat : Int) ≤ 126
      · have hn := hall.succ hlt hb
        go_wp2
        go_round
        case rel => exact ⟨k + 1, by omega, by go_num, hn⟩
        case measure => simp [intOf]; omega
      · have HF := Lib.hid (lineOk_no hlt hb)
        go_wp2
        all_goals (go_ret; exact ⟨ret_bool HF.out.symm, rfl⟩)
    · have HF := Lib.hid (lineOk_yes hall (by omega))
      go_wp2
      go_ret
      exact ⟨ret_bool (by rw [HF.out]; exact decide_eq_decide.2 (by omega)), rfl⟩

set_option maxHeartbeats 400000 in
theorem impl_LineValid (s : ByteArray) (w : World) (hs : s.size ≤ maxLen) :
    Calls Try.prog 41 #[.string s] w fun e w' => e = .returned (.bool (lineOk s)) ∧ w = w' := by
  unfold maxLen at hs
  by_cases hl : 200 < s.size
  · have HF := Lib.hid (lineOk_long hl)
    go_enter Try.func41, Try.ntmps41
    go_wp2
    go_ret
    exact ⟨ret_bool HF.out.symm, rfl⟩
  · go_enter Try.func41, Try.ntmps41
    go_wp2
    go_loop [9] (fun i => ∃ k : Nat, k ≤ s.size ∧ i = .int .i64 k ∧ OkUpto s k) (fun i => s.size - (intOf i).toNat)
    case atStart => exact ⟨0, by omega, rfl, OkUpto.zero s⟩
    case round =>
      obtain ⟨k, hk, rfl, hall⟩ := hrel
      by_cases hlt : k < s.size
      · by_cases hb : 32 ≤ (s[k].toNat : Int) ∧ (s[k].toNat : Int) ≤ 126
        · have hn := hall.succ hlt hb
          go_wp2
          go_round
          case rel => exact ⟨k + 1, by omega, by go_num, hn⟩
          case measure => simp [intOf]; omega
        · have HF := Lib.hid (lineOk_no hlt hb)
          go_wp2
          all_goals (go_ret; exact ⟨ret_bool HF.out.symm, rfl⟩)
      · have HF := Lib.hid (lineOk_yes hall (by omega))
        go_wp2
        go_ret
        exact ⟨ret_bool (by rw [HF.out]; exact (decide_eq_true (by omega)).symm), rfl⟩

end Go.Proofs.Ytigbaeokccknaaa
