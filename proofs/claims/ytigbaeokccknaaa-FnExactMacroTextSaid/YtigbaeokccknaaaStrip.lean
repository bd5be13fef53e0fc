/- StripComments of the model: the places behind comments and texts, and the whole. -/
import Derived.Test.YtigbaeokccknaaaStrip0
import Derived.Test.YtigbaeokccknaaaLive
import Derived.IntWalk
import Derived.Laws.Strings2
import Derived.Laws.Concat
namespace Go.Proofs.Ytigbaeokccknaaa
open Go.RowKit

/-- A cut of a string between two places. -/
theorem run_cut (s : ByteArray) (i j : Int) (a b : Nat) (hi : i = a) (hj : j = b) (h : a ≤ b) (h2 : b ≤ s.size) (W : World) :
    (Instr.slice 9 (.string s) (some (.int .i64 i)) (some (.int .i64 j)) none).run Try.prog W = .ok (.string (s.extract a b)) W := by
  subst hi; subst hj
  rw [run_slice_string W 9 s .i64 .i64 a b Try.underlying9 (by omega) (by omega) (by omega)]
  simp
theorem ret_int {a b : Int} (h : a = b) : Ending.returned (.int .i64 a) = .returned (.int .i64 b) := by rw [h]

set_option maxHeartbeats 400000 in
theorem spec_l2Text (s : ByteArray) (k0 : Nat) (w : World) (hs : s.size ≤ 1000000) (hk0 : k0 < s.size) :
    Calls Try.prog 96 #[.string s, .int .i64 k0] w fun e w' => e = .returned (.int .i64 (tEnd s (k0 + 1) : Nat)) ∧ w' = w := by
  go_enter Try.func96, Try.ntmps96
  go_wp2
  go_loop [5] (fun i => ∃ k : Nat, k ≤ s.size + 1 ∧ i = .int .i64 k ∧ tEnd s k = tEnd s (k0 + 1)) (fun i => s.size + 1 - (intOf i).toNat)
  case atStart => exact ⟨k0 + 1, by omega, by go_num, rfl⟩
  case round =>
    obtain ⟨k, hk, rfl, he⟩ := hrel
    by_cases hlt : k < s.size
    · by_cases h34 : s[k].toNat = 34
      · have HF := Lib.hid ((tEnd_quote hlt h34).symm.trans he)
        have h34' : ((s[k].toNat : Int) != 34) = false := by simp; omega
        clear he
        go_wp2
        all_goals (go_ret; exact ⟨ret_int (by have := HF.out; omega), rfl⟩)
      · have h34' : ((s[k].toNat : Int) != 34) = true := by simp; omega
        by_cases h92 : s[k].toNat = 92
        · have HF := Lib.hid ((tEnd_back hlt h92).symm.trans he)
          have h92' : ((s[k].toNat : Int) == 92) = true := by simp; omega
          clear he
          go_wp2
          go_round
          case rel => exact ⟨k + 2, by omega, by go_num, HF.out⟩
          case measure => simp [intOf]; omega
        · have HF := Lib.hid ((tEnd_else hlt h34 h92).symm.trans he)
          have h92' : ((s[k].toNat : Int) == 92) = false := by simp; omega
          clear he
          go_wp2
          go_round
          case rel => exact ⟨k + 1, by omega, by go_num, HF.out⟩
          case measure => simp [intOf]; omega
    · have HF := Lib.hid ((tEnd_out (s := s) (k := k) (by omega)).symm.trans he)
      clear he
      go_wp2
      all_goals (go_ret; exact ⟨ret_int (by have := HF.out; omega), rfl⟩)

set_option maxHeartbeats 400000 in
theorem impl_behindText (s : ByteArray) (k0 : Nat) (w : World) (hs : s.size ≤ 1000000) (hk0 : k0 < s.size) :
    Calls Try.prog 91 #[.string s, .int .i64 k0] w fun e w' => e = .returned (.int .i64 (tEnd s (k0 + 1) : Nat)) ∧ w' = w := by
  go_enter Try.func91, Try.ntmps91
  go_wp2
  go_loop [5] (fun i => ∃ k : Nat, k ≤ s.size + 1 ∧ i = .int .i64 k ∧ tEnd s k = tEnd s (k0 + 1)) (fun i => s.size + 1 - (intOf i).toNat)
  case atStart => exact ⟨k0 + 1, by omega, by go_num, rfl⟩
  case round =>
    obtain ⟨k, hk, rfl, he⟩ := hrel
    by_cases hlt : k < s.size
    · by_cases h34 : s[k].toNat = 34
      · have HF := Lib.hid ((tEnd_quote hlt h34).symm.trans he)
        have h34' : ((s[k].toNat : Int) == 34) = true := by simp; omega
        have h92' : ((s[k].toNat : Int) == 92) = false := by simp; omega
        clear he
        go_wp2
        go_ret
        exact ⟨ret_int (by have := HF.out; omega), rfl⟩
      · have h34' : ((s[k].toNat : Int) == 34) = false := by simp; omega
        by_cases h92 : s[k].toNat = 92
        · have HF := Lib.hid ((tEnd_back hlt h92).symm.trans he)
          have h92' : ((s[k].toNat : Int) == 92) = true := by simp; omega
          clear he
          go_wp2
          go_round
          case rel => exact ⟨k + 2, by omega, by go_num, HF.out⟩
          case measure => simp [intOf]; omega
        · have HF := Lib.hid ((tEnd_else hlt h34 h92).symm.trans he)
          have h92' : ((s[k].toNat : Int) == 92) = false := by simp; omega
          clear he
          go_wp2
          go_round
          case rel => exact ⟨k + 1, by omega, by go_num, HF.out⟩
          case measure => simp [intOf]; omega
    · have HF := Lib.hid ((tEnd_out (s := s) (k := k) (by omega)).symm.trans he)
      clear he
      go_wp2
      go_ret
      exact ⟨ret_int (by have := HF.out; omega), rfl⟩

/-- The ways from a place on. -/
def Ways (s : ByteArray) (k : Nat) (out : ByteArray) (hk : k < s.size) : Prop :=
  (two s k 47 47 = true ∧ Hid (strip1 s 0 = some out)) ∨
  (two s k 47 47 = false ∧ two s k 47 42 = true ∧ cEnd s (k + 2) < 0 ∧ Hid (strip1 s 0 = none)) ∨
  (∃ c : Nat, two s k 47 47 = false ∧ two s k 47 42 = true ∧ cEnd s (k + 2) = c ∧ k < c ∧ c ≤ s.size ∧ Hid (At1 s c (out ++ ⟨#[32]⟩))) ∨
  (∃ t : Nat, two s k 47 47 = false ∧ two s k 47 42 = false ∧ ((s[k].toNat : Int) == 34) = true ∧ tEnd s (k + 1) = t ∧ k < t ∧ t ≤ s.size ∧ Hid (At1 s t (out ++ s.extract k t))) ∨
  (two s k 47 47 = false ∧ two s k 47 42 = false ∧ ((s[k].toNat : Int) == 34) = false ∧ Hid (At1 s (k + 1) (out ++ s.extract k (k + 1))))
theorem ways {s : ByteArray} {k : Nat} {out : ByteArray} (hat : At1 s k out) (hk : k < s.size) : Ways s k out hk := by
  unfold Ways
  cases h1 : two s k 47 47
  · cases h2 : two s k 47 42
    · by_cases h3 : s[k].toNat = 34
      · have hb := tEnd_bounds s (k + 1)
        have := hb.2 (by omega)
        exact .inr (.inr (.inr (.inl ⟨_, rfl, rfl, by simp; omega, rfl, by omega, by omega, hat.text hk h1 h2 h3⟩)))
      · exact .inr (.inr (.inr (.inr ⟨rfl, rfl, by simp; omega, hat.byte hk h1 h2 h3⟩)))
    · by_cases h3 : cEnd s (k + 2) < 0
      · exact .inr (.inl ⟨rfl, rfl, h3, hat.open_ hk h1 h2 h3⟩)
      · have := cEnd_room (s := s) (k := k + 2) (by omega) (by have := two_room h2; omega)
        exact .inr (.inr (.inl ⟨(cEnd s (k + 2)).toNat, rfl, rfl, by omega, by omega, by omega, hat.comment hk h1 h2 h3⟩))
  · exact .inl ⟨rfl, hat.line hk h1⟩

end Go.Proofs.Ytigbaeokccknaaa
