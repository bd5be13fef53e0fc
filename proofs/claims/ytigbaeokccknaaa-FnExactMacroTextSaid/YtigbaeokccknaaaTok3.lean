/- The model's tokens. -/
import Derived.Test.YtigbaeokccknaaaTok2
import Derived.Deep.QuietTactic
import Derived.BigQuiet
namespace Go.Proofs.Ytigbaeokccknaaa
open Go.RowKit

set_option maxHeartbeats 400000 in
theorem spec_l3Digit (c : UInt8) (w : World) :
    Calls Try.prog 95 #[.int .u8 (c.toNat : Int)] w fun e w' => e = .returned (.bool (isDig c)) ∧ w = w' := by
  go_enter Try.func95, Try.ntmps95
  go_wp2
  all_goals
    go_ret
    exact ⟨ret_bool (by rw [Bool.eq_iff_iff, isDig_iff]; simp <;> omega), rfl⟩

set_option maxHeartbeats 400000 in
theorem spec_l3Letter (c : UInt8) (w : World) :
    Calls Try.prog 94 #[.int .u8 (c.toNat : Int)] w fun e w' => e = .returned (.bool (isLet c)) ∧ w = w' := by
  go_enter Try.func94, Try.ntmps94
  go_wp2
  all_goals
    go_ret
    exact ⟨ret_bool (by rw [Bool.eq_iff_iff, isLet_iff]; simp <;> omega), rfl⟩

theorem word_of_let {c : UInt8} (h : isLet c = true) : isWord c = true := by unfold isWord; rw [h, Bool.true_or]
theorem word_of_no {c : UInt8} (h : isLet c = false) (h2 : isDig c = false) : isWord c = false := by unfold isWord; rw [h, h2]; rfl

set_option maxHeartbeats 400000 in
theorem spec_l3Back (s : ByteArray) (k0 e : Nat) (w : World) (hs : s.size ≤ 1000000) (he : e ≤ s.size) (h1 : 1 ≤ e) (hk0 : k0 < s.size) :
    Calls Try.prog 97 #[.string s, .int .i64 k0, .int .i64 e] w fun r w' => r = .returned (.bool (decide (bk s (k0 + 1) (e - 1) ≠ e - 1))) ∧ w = w' := by
  go_enter Try.func97, Try.ntmps97
  go_wp2
  go_loop [7] (fun i => ∃ k : Nat, k ≤ s.size + 1 ∧ i = .int .i64 k ∧ bk s k (e - 1) = bk s (k0 + 1) (e - 1)) (fun i => s.size + 1 - (intOf i).toNat)
  case atStart => exact ⟨k0 + 1, by omega, by go_num, rfl⟩
  case round =>
    obtain ⟨k, hk, rfl, hb⟩ := hrel
    by_cases hlt : k < e - 1
    · have hlt' : (k : Int) < (e : Int) - 1 := by omega
      have hks : k < s.size := by omega
      by_cases h92 : s[k].toNat = 92
      · have HF := Lib.hid ((bk_back hlt hks h92).symm.trans hb)
        have h92' : ((s[k].toNat : Int) == 92) = true := by simp; omega
        clear hb h92
        go_wp2
        go_round
        case rel => exact ⟨k + 2, by omega, by go_num, HF.out⟩
        case measure => simp [intOf]; omega
      · have HF := Lib.hid ((bk_else hlt hks h92).symm.trans hb)
        have h92' : ((s[k].toNat : Int) == 92) = false := by simp; omega
        clear hb h92
        go_wp2
        go_round
        case rel => exact ⟨k + 1, by omega, by go_num, HF.out⟩
        case measure => simp [intOf]; omega
    · have HF := Lib.hid ((bk_out (s := s) (k := k) (e := e - 1) (by omega)).symm.trans hb)
      have hge : ¬ (k : Int) < (e : Int) - 1 := by omega
      clear hb
      go_wp2
      go_ret
      exact ⟨ret_bool (by rw [← HF.out, Bool.eq_iff_iff]; simp; omega), rfl⟩

def NoMark (c : UInt8) (k : Nat) : Prop := ∀ j, (h : j < marks1.length) → j < k → marks1[j] ≠ c
theorem NoMark.zero (c : UInt8) : NoMark c 0 := by intro j h hj; omega
theorem NoMark.succ {c : UInt8} {k : Nat} (h : NoMark c k) (hk : k < marks1.length) (hc : marks1[k] ≠ c) : NoMark c (k + 1) := by
  intro j hj hjk
  by_cases e : j = k
  · subst e; exact hc
  · exact h j hj (by omega)
theorem NoMark.none {c : UInt8} (h : NoMark c 23) : ¬ c ∈ marks1 := by
  intro hc
  obtain ⟨i, hi, rfl⟩ := List.getElem_of_mem hc
  exact h i hi hi rfl

set_option maxHeartbeats 1000000 in
theorem spec_l3Mark (s : ByteArray) (k : Nat) (w : World) (hs : s.size ≤ 1000000) (hk : k < s.size) :
    Calls Try.prog 98 #[.string s, .int .i64 k] w fun e w' => e = .returned (.int .i64 (mLen s k : Nat)) ∧ ∃ n, w' = w.drewN n := by
  have hsl : ∀ W, (Instr.slice 9 (.string s) (some (.int .i64 (k : Int))) (some (.int .i64 (min (s.size : Int) ((k : Int) + 2)))) none).run Try.prog W = .ok (.string (s.extract k (k + 2))) W := by
    intro W
    rw [run_cut s _ _ k (min s.size (k + 2)) rfl (by omega) (by omega) (by omega) W, ext_min]
  have e1 := ext_two s k 61 61
  have e2 := ext_two s k 33 61
  have e3 := ext_two s k 60 61
  have e4 := ext_two s k 62 61
  have e5 := ext_two s k 38 38
  have e6 := ext_two s k 124 124
  have e7 := ext_two s k 35 35
  rcases eight s k with ⟨h1, HT⟩ | ⟨h1, h2, HT⟩ | ⟨h1, h2, h3, HT⟩ | ⟨h1, h2, h3, h4, HT⟩ | ⟨h1, h2, h3, h4, h5, HT⟩ | ⟨h1, h2, h3, h4, h5, h6, HT⟩ | ⟨h1, h2, h3, h4, h5, h6, h7, HT⟩ | ⟨h1, h2, h3, h4, h5, h6, h7, HT⟩
  iterate 7
    · (try rw [h1] at e1); (try rw [h2] at e2); (try rw [h3] at e3); (try rw [h4] at e4); (try rw [h5] at e5); (try rw [h6] at e6); (try rw [h7] at e7)
      have HF : Hid (mLen s k = 2) := by show _ = _; unfold mLen; rw [if_pos HT.out]
      go_enter Try.func98, Try.ntmps98
      go_wp2
      go_ret
      exact ⟨ret_int (by rw [HF.out]; rfl), 0, rfl⟩
  · rw [h1] at e1; rw [h2] at e2; rw [h3] at e3; rw [h4] at e4; rw [h5] at e5; rw [h6] at e6; rw [h7] at e7
    go_enter Try.func98, Try.ntmps98
    go_wp2
    go_loopw [7] (fun i wr => ∃ j : Nat, j ≤ 23 ∧ i = .int .i64 j ∧ NoMark s[k] j ∧ ∃ n, wr = w.drewN n) (fun i _ => 23 - (intOf i).toNat)
    case atStart => exact ⟨0, by omega, rfl, NoMark.zero _, 0, rfl⟩
    case round =>
      obtain ⟨j, hj, rfl, hno, n, rfl⟩ := hrel
      by_cases hlt : j < 23
      · have hix : ∀ W, (Instr.index 9 (.string ⟨#[43, 45, 42, 47, 37, 60, 62, 61, 33, 38, 124, 40, 41, 44, 35, 59, 63, 58, 123, 125, 91, 93, 46]⟩) (.int .i64 (j : Int))).run Try.prog W = .ok (.int .u8 ((marks1[j]'hlt).toNat : Int)) W := by
          intro W
          have h1 : (0 : Int) ≤ (j : Int) ∧ (j : Int) < ((⟨#[43, 45, 42, 47, 37, 60, 62, 61, 33, 38, 124, 40, 41, 44, 35, 59, 63, 58, 123, 125, 91, 93, 46]⟩ : ByteArray).size : Int) := ⟨by omega, by show (j : Int) < 23; omega⟩
          rw [run_index_string W _ _ .i64 (j : Int) Try.underlying9, dif_pos h1]
          rfl
        by_cases hc : marks1[j]'hlt = s[k]
        · have HF : Hid (mLen s k = 1) := mLen_one HT.out hk (hc ▸ List.getElem_mem hlt)
          have hce : (((marks1[j]'hlt).toNat : Int) == (s[k].toNat : Int)) = true := by rw [hc]; simp
          clear hc
          go_wp2
          go_quiet (fail)
          go_wp2
          go_ret
          exact ⟨ret_int (by rw [HF.out]; rfl), _, World.drewN_drewN _ _ _⟩
        · have HN := Lib.hid (hno.succ hlt hc)
          have hce : (((marks1[j]'hlt).toNat : Int) == (s[k].toNat : Int)) = false := by
            rw [beq_eq_false_iff_ne]; intro h; exact hc (UInt8.toNat_inj.1 (by omega))
          clear hc hno
          go_wp2
          go_quiet (fail)
          go_wp2
          go_roundw
          case rel => exact ⟨j + 1, by omega, by go_num, HN.out, _, rfl⟩
          case measure => simp [intOf]; omega
      · obtain rfl : j = 23 := by omega
        have HF : Hid (mLen s k = 0) := mLen_none HT.out hk hno.none
        go_wp2
        go_ret
        exact ⟨ret_int (by rw [HF.out]; rfl), _, rfl⟩

theorem sCut_w {s : ByteArray} {k : Nat} (h : k < s.size) (hl : isLet s[k] = true) : sCut s k = (1, (wEnd s (k + 1) : Int)) := by rw [sCut_word h (word_of_let hl), if_pos hl]
theorem sCut_d {s : ByteArray} {k : Nat} (h : k < s.size) (hl : isLet s[k] = false) (hd : isDig s[k] = true) : sCut s k = (2, (wEnd s (k + 1) : Int)) := by rw [sCut_word h (dig_word hd), if_neg (by simp [hl])]
theorem ret_cut {s : ByteArray} {k : Nat} {a b : Int} (h : sCut s k = (a, b)) : Ending.returned (.tuple #[.int .i64 a, .int .i64 b]) = .returned (.tuple #[.int .i64 (sCut s k).1, .int .i64 (sCut s k).2]) := by rw [h]

set_option maxHeartbeats 2000000 in
theorem cut_let (s : ByteArray) (k0 : Nat) (w : World) (hs : s.size ≤ 1000000) (hk0 : k0 < s.size) (hl : isLet s[k0] = true) :
    Calls Try.prog 84 #[.string s, .int .i64 k0] w fun e w' => e = .returned (.tuple #[.int .i64 (sCut s k0).1, .int .i64 (sCut s k0).2]) ∧ ∃ n, w' = w.drewN n := by
  have HF := Lib.hid (sCut_w hk0 hl)
  go_enter Try.func84, Try.ntmps84
  go_wp2_with (first
    | (go_at_call 94; refine (spec_l3Letter _ _).mono ?_; rw [hl]; rintro e w' ⟨rfl, rfl⟩))
  go_loop [6] (fun i => ∃ k : Nat, k0 + 1 ≤ k ∧ k ≤ s.size ∧ i = .int .i64 k ∧ wEnd s k = wEnd s (k0 + 1)) (fun i => s.size - (intOf i).toNat)
  case atStart => exact ⟨k0 + 1, by omega, by omega, by go_num, rfl⟩
  case round =>
    obtain ⟨k, hk1, hk, rfl, he⟩ := hrel
    have HE := Lib.hid he; clear he
    by_cases hlt : k < s.size
    · cases hl2 : isLet s[k]
      · cases hd2 : isDig s[k]
        · have HG := Lib.hid ((wEnd_stop hlt (word_of_no hl2 hd2)).symm.trans HE.out)
          go_wp2_with (first
            | (go_at_call 94; refine (spec_l3Letter _ _).mono ?_; (first | rw [hl2] | rw [hl]); rintro e w' ⟨rfl, rfl⟩)
            | (go_at_call 95; refine (spec_l3Digit _ _).mono ?_; rw [hd2]; rintro e w' ⟨rfl, rfl⟩))
          go_ret2
          exact ⟨ret_cut (by rw [HF.out, ← HG.out]), 0, rfl⟩
        · have HG := Lib.hid ((wEnd_in hlt (dig_word hd2)).symm.trans HE.out)
          go_wp2_with (first
            | (go_at_call 94; refine (spec_l3Letter _ _).mono ?_; rw [hl2]; rintro e w' ⟨rfl, rfl⟩)
            | (go_at_call 95; refine (spec_l3Digit _ _).mono ?_; rw [hd2]; rintro e w' ⟨rfl, rfl⟩))
          go_round
          case rel => exact ⟨k + 1, by omega, by omega, by go_num, HG.out⟩
          case measure => simp [intOf]; omega
      · have HG := Lib.hid ((wEnd_in hlt (word_of_let hl2)).symm.trans HE.out)
        go_wp2_with (first
          | (go_at_call 94; refine (spec_l3Letter _ _).mono ?_; rw [hl2]; rintro e w' ⟨rfl, rfl⟩))
        go_round
        case rel => exact ⟨k + 1, by omega, by omega, by go_num, HG.out⟩
        case measure => simp [intOf]; omega
    · have HG := Lib.hid ((wEnd_out (s := s) (k := k) (by omega)).symm.trans HE.out)
      go_wp2_with (first
        | (go_at_call 94; refine (spec_l3Letter _ _).mono ?_; rw [hl]; rintro e w' ⟨rfl, rfl⟩))
      go_ret2
      exact ⟨ret_cut (by rw [HF.out, ← HG.out]), 0, rfl⟩

set_option maxHeartbeats 2000000 in
theorem cut_dig (s : ByteArray) (k0 : Nat) (w : World) (hs : s.size ≤ 1000000) (hk0 : k0 < s.size) (hl : isLet s[k0] = false) (hd : isDig s[k0] = true) :
    Calls Try.prog 84 #[.string s, .int .i64 k0] w fun e w' => e = .returned (.tuple #[.int .i64 (sCut s k0).1, .int .i64 (sCut s k0).2]) ∧ ∃ n, w' = w.drewN n := by
  have HF := Lib.hid (sCut_d hk0 hl hd)
  go_enter Try.func84, Try.ntmps84
  go_wp2_with (first
    | (go_at_call 94; refine (spec_l3Letter _ _).mono ?_; rw [hl]; rintro e w' ⟨rfl, rfl⟩)
    | (go_at_call 95; refine (spec_l3Digit _ _).mono ?_; rw [hd]; rintro e w' ⟨rfl, rfl⟩))
  go_loop [6] (fun i => ∃ k : Nat, k0 + 1 ≤ k ∧ k ≤ s.size ∧ i = .int .i64 k ∧ wEnd s k = wEnd s (k0 + 1)) (fun i => s.size - (intOf i).toNat)
  case atStart => exact ⟨k0 + 1, by omega, by omega, by go_num, rfl⟩
  case round =>
    obtain ⟨k, hk1, hk, rfl, he⟩ := hrel
    have HE := Lib.hid he; clear he
    by_cases hlt : k < s.size
    · cases hl2 : isLet s[k]
      · cases hd2 : isDig s[k]
        · have HG := Lib.hid ((wEnd_stop hlt (word_of_no hl2 hd2)).symm.trans HE.out)
          go_wp2_with (first
            | (go_at_call 94; refine (spec_l3Letter _ _).mono ?_; (first | rw [hl2] | rw [hl]); rintro e w' ⟨rfl, rfl⟩)
            | (go_at_call 95; refine (spec_l3Digit _ _).mono ?_; rw [hd2]; rintro e w' ⟨rfl, rfl⟩))
          go_ret2
          exact ⟨ret_cut (by rw [HF.out, ← HG.out]), 0, rfl⟩
        · have HG := Lib.hid ((wEnd_in hlt (dig_word hd2)).symm.trans HE.out)
          go_wp2_with (first
            | (go_at_call 94; refine (spec_l3Letter _ _).mono ?_; rw [hl2]; rintro e w' ⟨rfl, rfl⟩)
            | (go_at_call 95; refine (spec_l3Digit _ _).mono ?_; rw [hd2]; rintro e w' ⟨rfl, rfl⟩))
          go_round
          case rel => exact ⟨k + 1, by omega, by omega, by go_num, HG.out⟩
          case measure => simp [intOf]; omega
      · have HG := Lib.hid ((wEnd_in hlt (word_of_let hl2)).symm.trans HE.out)
        go_wp2_with (first
          | (go_at_call 94; refine (spec_l3Letter _ _).mono ?_; rw [hl2]; rintro e w' ⟨rfl, rfl⟩))
        go_round
        case rel => exact ⟨k + 1, by omega, by omega, by go_num, HG.out⟩
        case measure => simp [intOf]; omega
    · have HG := Lib.hid ((wEnd_out (s := s) (k := k) (by omega)).symm.trans HE.out)
      go_wp2_with (first
        | (go_at_call 94; refine (spec_l3Letter _ _).mono ?_; rw [hl]; rintro e w' ⟨rfl, rfl⟩))
      go_ret2
      exact ⟨ret_cut (by rw [HF.out, ← HG.out]), 0, rfl⟩

set_option maxHeartbeats 2000000 in
theorem cut_no (s : ByteArray) (k0 : Nat) (w : World) (hs : s.size ≤ 1000000) (hk0 : k0 < s.size) (hw : isWord s[k0] = false) :
    Calls Try.prog 84 #[.string s, .int .i64 k0] w fun e w' => e = .returned (.tuple #[.int .i64 (sCut s k0).1, .int .i64 (sCut s k0).2]) ∧ ∃ n, w' = w.drewN n := by
  have hl : isLet s[k0] = false := by unfold isWord at hw; rw [Bool.or_eq_false_iff] at hw; exact hw.1
  have hd : isDig s[k0] = false := by unfold isWord at hw; rw [Bool.or_eq_false_iff] at hw; exact hw.2
  by_cases hq : s[k0].toNat = 34
  · have h34 : ((s[k0].toNat : Int) == 34) = true := by simp; omega
    cases hc : tClose s (k0 + 1) with
    | some e =>
      have HF := Lib.hid (sCut_closed hk0 hw hq hc)
      obtain ⟨c1, c2, c3, c4, c5⟩ := tClose_some hc
      have hb := bk_closed hc
      have hB : decide (bk s (k0 + 1) (e - 1) ≠ e - 1) = false := by simp [hb]
      have h5 : ((s[e - 1].toNat : Int) != 34) = false := by simp; omega
      have h6 : ((e : Int) - 1).toNat = e - 1 := by omega
      clear hb hc hq
      go_enter Try.func84, Try.ntmps84
      go_wp2_with (first
        | (go_at_call 94; refine (spec_l3Letter _ _).mono ?_; rw [hl]; rintro e w' ⟨rfl, rfl⟩)
        | (go_at_call 95; refine (spec_l3Digit _ _).mono ?_; rw [hd]; rintro e w' ⟨rfl, rfl⟩)
        | (go_at_call 96; refine (spec_l2Text s k0 _ hs hk0).mono ?_; rw [c3]; rintro e w' ⟨rfl, rfl⟩)
        | (go_at_call 97; refine (spec_l3Back s k0 e _ hs c2 (by omega) hk0).mono ?_; rw [hB]; rintro e w' ⟨rfl, rfl⟩))
      go_ret2
      exact ⟨ret_cut HF.out, 0, rfl⟩
    | none =>
      have HF := Lib.hid (sCut_open hk0 hw hq hc)
      have c3 := tClose_none hc
      have hord : k0 + 1 = s.size ∨ (k0 + 1 < s.size ∧ ((s[s.size - 1].toNat : Int) != 34) = true) ∨ (k0 + 1 < s.size ∧ ((s[s.size - 1].toNat : Int) != 34) = false ∧ decide (bk s (k0 + 1) (s.size - 1) ≠ s.size - 1) = true) := by
        by_cases h1 : k0 + 1 < s.size
        · by_cases h2 : s[s.size - 1].toNat = 34
          · exact .inr (.inr ⟨h1, by simp; omega, by simpa using bk_open hc h1 h2⟩)
          · exact .inr (.inl ⟨h1, by simp; omega⟩)
        · exact .inl (by omega)
      clear hc hq
      have h6 : ((s.size : Int) - 1).toNat = s.size - 1 := by omega
      go_enter Try.func84, Try.ntmps84
      rcases hord with h7 | ⟨h7, h5⟩ | ⟨h7, h5, hB⟩
      all_goals
        go_wp2_with (first
          | (go_at_call 94; refine (spec_l3Letter _ _).mono ?_; rw [hl]; rintro e w' ⟨rfl, rfl⟩)
          | (go_at_call 95; refine (spec_l3Digit _ _).mono ?_; rw [hd]; rintro e w' ⟨rfl, rfl⟩)
          | (go_at_call 96; refine (spec_l2Text s k0 _ hs hk0).mono ?_; rw [c3]; rintro e w' ⟨rfl, rfl⟩)
          | (go_at_call 97; refine (spec_l3Back s k0 s.size _ hs (Nat.le_refl _) (by omega) hk0).mono ?_; rw [hB]; rintro e w' ⟨rfl, rfl⟩))
        go_ret2
        exact ⟨ret_cut HF.out, 0, rfl⟩
  · have h34 : ((s[k0].toNat : Int) == 34) = false := by simp; omega
    have HF := Lib.hid (sCut_mark hk0 hw hq)
    have hml := (mLen_room (s := s) hk0).2
    clear hq
    go_enter Try.func84, Try.ntmps84
    go_wp2_with (first
      | (go_at_call 94; refine (spec_l3Letter _ _).mono ?_; rw [hl]; rintro e w' ⟨rfl, rfl⟩)
      | (go_at_call 95; refine (spec_l3Digit _ _).mono ?_; rw [hd]; rintro e w' ⟨rfl, rfl⟩)
      | (go_at_call 98; refine (spec_l3Mark s k0 _ hs hk0).mono ?_; rintro e w' ⟨rfl, n, rfl⟩))
    go_ret2
    exact ⟨ret_cut (by rw [HF.out]; simp), _, rfl⟩

theorem spec_l3Cut (s : ByteArray) (k0 : Nat) (w : World) (hs : s.size ≤ 1000000) (hk0 : k0 < s.size) :
    Calls Try.prog 84 #[.string s, .int .i64 k0] w fun e w' => e = .returned (.tuple #[.int .i64 (sCut s k0).1, .int .i64 (sCut s k0).2]) ∧ ∃ n, w' = w.drewN n := by
  cases hw : isWord s[k0]
  · exact cut_no s k0 w hs hk0 hw
  · cases h : isLet s[k0]
    · unfold isWord at hw
      rw [h, Bool.false_or] at hw
      exact cut_dig s k0 w hs hk0 h hw
    · exact cut_let s k0 w hs hk0 h

end Go.Proofs.Ytigbaeokccknaaa
