/- StripComments of the model: the places behind comments and texts, and the whole. -/
import Derived.Test.YtegpienbgmfghaaStrip0
import Derived.Test.YtegpienbgmfghaaLive
import Derived.IntWalk
import Derived.Laws.Strings2
import Derived.Laws.Concat
namespace Go.Proofs.Ytegpienbgmfghaa
open Go.RowKit

/-- A cut of a string between two places. -/
theorem run_cut (s : ByteArray) (i j : Int) (a b : Nat) (hi : i = a) (hj : j = b) (h : a ≤ b) (h2 : b ≤ s.size) (W : World) :
    (Instr.slice 9 (.string s) (some (.int .i64 i)) (some (.int .i64 j)) none).run Try.prog W = .ok (.string (s.extract a b)) W := by
  subst hi; subst hj
  rw [run_slice_string W 9 s .i64 .i64 a b Try.underlying9 (by omega) (by omega) (by omega)]
  simp
theorem ret_int {a b : Int} (h : a = b) : Ending.returned (.int .i64 a) = .returned (.int .i64 b) := by rw [h]

set_option maxHeartbeats 400000 in
theorem spec_l2Text (s : ByteArray) (k0 : Nat) (w : World) (hs : s.size ≤ 1000000) (hk0 : k0 < s.size) :
    Calls Try.prog 33 #[.string s, .int .i64 k0] w fun e w' => e = .returned (.int .i64 (tEnd s (k0 + 1) : Nat)) ∧ w' = w := by
  go_enter Try.func33, Try.ntmps33
  go_wp2
  go_loop [5] (fun i => ∃ k : Nat, k ≤ s.size + 1 ∧ i = .int .i64 k ∧ tEnd s k = tEnd s (k0 + 1)) (fun i => s.size + 1 - (intOf i).toNat)
  case atStart => exact ⟨k0 + 1, by omega, by go_num, rfl⟩
  case round =>
    obtain ⟨k, hk, rfl, he⟩ := hrel
    by_cases hlt : k < s.size
    · by_cases h34 : s[k].toNat = 34
      · have HF := Lib.hid ((tEnd_quote hlt h34).symm.trans he)
        have h34' : ((s[k].toNat : Int) != 34) = false := by simp; omega
        clear he
        go_wp2
        all_goals (go_ret; exact ⟨ret_int (by have := HF.out; omega), rfl⟩)
      · have h34' : ((s[k].toNat : Int) != 34) = true := by simp; omega
        by_cases h92 : s[k].toNat = 92
        · have HF := Lib.hid ((tEnd_back hlt h92).symm.trans he)
          have h92' : ((s[k].toNat : Int) == 92) = true := by simp; omega
          clear he
          go_wp2
          go_round
          case rel => exact ⟨k + 2, by omega, by go_num, HF.out⟩
          case measure => simp [intOf]; omega
        · have HF := Lib.hid ((tEnd_else hlt h34 h92).symm.trans he)
          have h92' : ((s[k].toNat : Int) == 92) = false := by simp; omega
          clear he
          go_wp2
          go_round
          case rel => exact ⟨k + 1, by omega, by go_num, HF.out⟩
          case measure => simp [intOf]; omega
    · have HF := Lib.hid ((tEnd_out (s := s) (k := k) (by omega)).symm.trans he)
      clear he
      go_wp2
      all_goals (go_ret; exact ⟨ret_int (by have := HF.out; omega), rfl⟩)

set_option maxHeartbeats 400000 in
theorem spec_l2Open (s : ByteArray) (k0 : Nat) (w : World) (hs : s.size ≤ 1000000) (hk0 : k0 < s.size) :
    Calls Try.prog 32 #[.string s, .int .i64 k0] w fun e w' => e = .returned (.int .i64 (cEnd s (k0 + 2))) ∧ w' = w := by
  go_enter Try.func32, Try.ntmps32
  go_wp2
  go_loop [5] (fun i => ∃ k : Nat, k0 + 2 ≤ k ∧ k ≤ s.size + 1 ∧ i = .int .i64 k ∧ NoEnd s (k0 + 2) k) (fun i => s.size + 1 - (intOf i).toNat)
  case atStart => exact ⟨k0 + 2, by omega, by omega, by go_num, NoEnd.zero _ _⟩
  case round =>
    obtain ⟨k, hk1, hk, rfl, hno⟩ := hrel
    by_cases hlt : k + 1 < s.size
    · have hx := ext_two s k 42 47
      have hsl := run_cut s (k : Int) ((k : Int) + 2) k (k + 2) rfl (by omega) (by omega) (by omega)
      cases h2 : two s k 42 47
      · rw [h2] at hx
        have HN := Lib.hid (hno.succ h2)
        clear hno h2
        go_wp2
        go_round
        case rel => exact ⟨k + 1, by omega, by omega, by go_num, HN.out⟩
        case measure => simp [intOf]; omega
      · rw [h2] at hx
        have HF := Lib.hid (hno.hit hk1 h2)
        clear hno h2
        go_wp2
        go_ret
        exact ⟨ret_int (by have := HF.out; omega), rfl⟩
    · have HF := Lib.hid (hno.miss (by omega))
      clear hno
      go_wp2
      go_ret
      exact ⟨ret_int (by have := HF.out; omega), rfl⟩

/-- The ways from a place on. -/
def Ways (s : ByteArray) (k : Nat) (out : ByteArray) (hk : k < s.size) : Prop :=
  (two s k 47 47 = true ∧ Hid (strip1 s 0 = some out)) ∨
  (two s k 47 47 = false ∧ two s k 47 42 = true ∧ cEnd s (k + 2) < 0 ∧ Hid (strip1 s 0 = none)) ∨
  (∃ c : Nat, two s k 47 47 = false ∧ two s k 47 42 = true ∧ cEnd s (k + 2) = c ∧ k < c ∧ c ≤ s.size ∧ Hid (At1 s c (out ++ ⟨#[32]⟩))) ∨
  (∃ t : Nat, two s k 47 47 = false ∧ two s k 47 42 = false ∧ ((s[k].toNat : Int) == 34) = true ∧ tEnd s (k + 1) = t ∧ k < t ∧ t ≤ s.size ∧ Hid (At1 s t (out ++ s.extract k t))) ∨
  (two s k 47 47 = false ∧ two s k 47 42 = false ∧ ((s[k].toNat : Int) == 34) = false ∧ Hid (At1 s (k + 1) (out ++ s.extract k (k + 1))))
theorem ways {s : ByteArray} {k : Nat} {out : ByteArray} (hat : At1 s k out) (hk : k < s.size) : Ways s k out hk := by
  unfold Ways
  cases h1 : two s k 47 47
  · cases h2 : two s k 47 42
    · by_cases h3 : s[k].toNat = 34
      · have hb := tEnd_bounds s (k + 1)
        have := hb.2 (by omega)
        exact .inr (.inr (.inr (.inl ⟨_, rfl, rfl, by simp; omega, rfl, by omega, by omega, hat.text hk h1 h2 h3⟩)))
      · exact .inr (.inr (.inr (.inr ⟨rfl, rfl, by simp; omega, hat.byte hk h1 h2 h3⟩)))
    · by_cases h3 : cEnd s (k + 2) < 0
      · exact .inr (.inl ⟨rfl, rfl, h3, hat.open_ hk h1 h2 h3⟩)
      · have := cEnd_room (s := s) (k := k + 2) (by omega) (by have := two_room h2; omega)
        exact .inr (.inr (.inl ⟨(cEnd s (k + 2)).toNat, rfl, rfl, by omega, by omega, by omega, hat.comment hk h1 h2 h3⟩))
  · exact .inl ⟨rfl, hat.line hk h1⟩

set_option maxHeartbeats 4000000 in
theorem spec_StripComments (s : ByteArray) (w : World) (hs : s.size ≤ maxLen) :
    Calls Try.prog 22 #[.string s] w fun e w' => e = .returned (.tuple #[.string (stripRes s).1, .bool (stripRes s).2]) ∧ Below w.heap.size w w' := by
  have hm := hs
  unfold maxLen at hm
  cases h0 : lineOk s
  · have HF := Lib.hid (stripRes_bad h0)
    go_enter Try.func22, Try.ntmps22
    go_wp2_with (go_at_call 10; refine (spec_LineValid _ _ hs).mono ?_; rw [h0]; rintro e w' ⟨rfl, rfl⟩)
    go_ret2
    exact ⟨ret_two HF.out, Below.refl _ _⟩
  have hsz := lineOk_size h0
  have H0 := Lib.hid h0
  go_enter Try.func22, Try.ntmps22
  go_wp2_with (go_at_call 10; refine (spec_LineValid _ _ hs).mono ?_; rw [h0]; rintro e w' ⟨rfl, rfl⟩)
  clear h0
  go_loopw [4, 5] (fun o i wr => ∃ (k : Nat) (out : ByteArray), k ≤ s.size ∧ o = .string out ∧ i = .int .i64 k ∧ At1 s k out ∧ ∃ n, wr = w.drewN n) (fun _ i _ => s.size - (intOf i).toNat)
  case atStart => exact ⟨0, ⟨#[]⟩, by omega, rfl, rfl, At1.zero s, 0, rfl⟩
  case round =>
    obtain ⟨k, out, hk, rfl, rfl, hat, n, rfl⟩ := hrel
    have ho : out.size ≤ 200 := by have := hat.2; omega
    by_cases hlt : k < s.size
    · have hw := ways hat hlt
      clear hat
      have e1 := ext_two s k 47 47
      have e2 := ext_two s k 47 42
      have hr : ((k : Int) + 2 < (s.size : Int) ∧ ∀ W, (Instr.slice 9 (.string s) (some (.int .i64 (k : Int))) (some (.int .i64 ((k : Int) + 2))) none).run Try.prog W = .ok (.string (s.extract k (k + 2))) W) ∨
          (¬ (k : Int) + 2 < (s.size : Int) ∧ ∀ W, (Instr.slice 9 (.string s) (some (.int .i64 (k : Int))) (some (.int .i64 (s.size : Int))) none).run Try.prog W = .ok (.string (s.extract k (k + 2))) W) := by
        by_cases h : (k : Int) + 2 < (s.size : Int)
        · exact .inl ⟨h, fun W => run_cut s _ _ k (k + 2) rfl (by omega) (by omega) (by omega) W⟩
        · refine .inr ⟨h, fun W => ?_⟩
          rw [run_cut s _ _ k s.size rfl rfl (by omega) (by omega) W, ← ext_min, Nat.min_eq_left (by omega)]
      rcases hw with ⟨h1, HF⟩ | ⟨h1, h2, h3, HF⟩ | ⟨c, h1, h2, h3, h4, h5, HN⟩ | ⟨c, h1, h2, h3, h6, h4, h5, HN⟩ | ⟨h1, h2, h3, HN⟩
      · rw [h1] at e1
        have HR := Lib.hid (stripRes_some H0.out HF.out)
        clear h1 e2
        rcases hr with ⟨hr, hsl⟩ | ⟨hr, hsl⟩ <;>
        · go_wp2
          go_ret2
          exact ⟨ret_two HR.out, belowN (Below.refl _ _) n⟩
      · rw [h1] at e1
        rw [h2] at e2
        have HR := Lib.hid (stripRes_none HF.out)
        clear h1 h2
        rcases hr with ⟨hr, hsl⟩ | ⟨hr, hsl⟩ <;>
        · go_wp2_with (go_at_call 32; refine (spec_l2Open _ _ _ (by omega) (by omega)).mono ?_; rintro e w' ⟨rfl, rfl⟩)
          go_ret2
          exact ⟨ret_two HR.out, belowN (Below.refl _ _) n⟩
      · rw [h1] at e1
        rw [h2] at e2
        have hadd := fun W => run_string_add_sum (P := Try.prog) W out ⟨#[32]⟩ (by show out.size + 1 ≤ _; omega)
        clear h1 h2
        rcases hr with ⟨hr, hsl⟩ | ⟨hr, hsl⟩ <;>
        · go_wp2_with (go_at_call 32; refine (spec_l2Open _ _ _ (by omega) (by omega)).mono ?_; rw [h3]; rintro e w' ⟨rfl, rfl⟩)
          go_roundw
          case rel => exact ⟨c, _, h5, rfl, rfl, HN.out, n, rfl⟩
          case measure => simp [intOf]; omega
      · rw [h1] at e1
        rw [h2] at e2
        have hadd := fun W => run_string_add_sum (P := Try.prog) W out (s.extract k c) (by rw [ByteArray.size_extract]; omega)
        have hsl2 := fun W => (run_cut s (k : Int) (c : Int) k c rfl rfl (by omega) (by omega) W)
        clear h1 h2
        rcases hr with ⟨hr, hsl⟩ | ⟨hr, hsl⟩ <;>
        · go_wp2_with (go_at_call 33; refine (spec_l2Text _ _ _ (by omega) (by omega)).mono ?_; rw [h6]; rintro e w' ⟨rfl, rfl⟩)
          go_roundw
          case rel => exact ⟨c, _, h5, rfl, rfl, HN.out, n, rfl⟩
          case measure => simp [intOf]; omega
      · rw [h1] at e1
        rw [h2] at e2
        have hadd := fun W => run_string_add_sum (P := Try.prog) W out (s.extract k (k + 1)) (by rw [ByteArray.size_extract]; omega)
        have hsl2 := fun W => (run_cut s (k : Int) ((k : Int) + 1) k (k + 1) rfl rfl (by omega) (by omega) W)
        clear h1 h2
        rcases hr with ⟨hr, hsl⟩ | ⟨hr, hsl⟩ <;>
        · go_wp2
          go_roundw
          case rel => exact ⟨k + 1, _, by omega, rfl, by go_num, HN.out, n, rfl⟩
          case measure => simp [intOf]; omega
    · have HF := Lib.hid (stripRes_some H0.out (hat.done (by omega)))
      clear hat
      go_wp2
      go_ret2
      exact ⟨ret_two HF.out, belowN (Below.refl _ _) n⟩

end Go.Proofs.Ytegpienbgmfghaa
