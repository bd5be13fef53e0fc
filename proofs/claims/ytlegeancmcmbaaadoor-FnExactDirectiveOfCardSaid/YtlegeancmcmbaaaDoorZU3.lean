/- Texts that the proof of U stands on, in one file. -/
import Derived.Test.YtlegeancmcmbaaaDoorZU2
import Derived.Deep.QuietTactic
import Derived.BigQuiet
import Derived.Test.YtlegeancmcmbaaaDoorZU1
import Derived.Laws.Cover1
import Derived.Outline
set_option linter.unusedVariables false
set_option linter.unusedSimpArgs false
/- TokensOf of the program. -/
namespace Go.Proofs.YtlegeancmcmbaaaDoor
open Go.RowKit

theorem lineOk_size' {s : ByteArray} (h : lineOk s = true) : s.size ≤ 200 := by
 unfold lineOk at h; rw [Bool.and_eq_true, decide_eq_true_eq] at h; exact h.1
theorem ret_toks {v : Value} {l : List Tok} {b : Bool} {s : ByteArray} (h : tokRes s = (l, b)) {B : Nat} {w w' : World} {fp : List Nat} (hr : (sSlice sTok).R w' [v] l fp) (ho : Own w' w.heap.size fp) (hb : Below w.heap.size w w') :
  TokMade (tokRes s) w (.returned (.tuple #[v, .bool b])) w' := by
 rw [h]; exact ⟨v, fp, rfl, hr, ho, hb⟩
theorem ret_no {s : ByteArray} (h : tokRes s = ([], false)) {w w' : World} {a : Option Addr} {cap : Nat} (hc : cap ≤ maxLen) (hb : Below w.heap.size w w') :
  TokMade (tokRes s) w (.returned (.tuple #[.slice a 0 cap, .bool false])) w' := by
 rw [h]; exact ⟨_, [], rfl, slice_empty _ _ _ _ hc, Own.nil _ _, hb⟩

set_option maxHeartbeats 4000000 in
theorem impl_TokensOf (s : ByteArray) (w : World) (hs : s.size ≤ maxLen) :
  Calls Tryd.prog 35 #[.string s] w (TokMade (tokRes s) w) := by
 have hm := hs
 unfold maxLen at hm
 cases h0 : lineOk s
 ·have HF := Lib.hid (tokRes_bad h0)
  go_enter Tryd.func35, Tryd.ntmps35
  go_wp2_with (go_at_call 31; refine (impl_LineValid _ _ hs).mono ?_; rw [h0]; rintro e w' ⟨rfl, rfl⟩)
  go_ret2
  exact ret_no HF.out (by simp) (Below.refl _ _)
 have hsz := lineOk_size' h0
 have H0 := Lib.hid h0
 go_enter Tryd.func35, Tryd.ntmps35
 go_wp2_with (go_at_call 31; refine (impl_LineValid _ _ hs).mono ?_; rw [h0]; rintro e w' ⟨rfl, rfl⟩)
 clear h0
 go_loopw [4, 5, 6] (fun v sp i wr => ∃ (k : Nat) (b : Bool) (out : List Tok), k ≤ s.size ∧ i = .int .i64 k ∧ sp = .bool b ∧ AtT s k b out ∧ Fresh s.size out ∧ TokRow w.heap.size v out wr ∧ Below w.heap.size w wr) (fun _ _ i _ => s.size - (intOf i).toNat)
 case atStart => exact ⟨0, false, [], by omega, rfl, rfl, AtT.zero s, Fresh.nil _, TokRow.nil _ _, Below.refl _ _⟩
 case round =>
  obtain ⟨k, b, out, hk, rfl, rfl, hat, hfr, hown, hbel⟩ := hrel
  have ho : out.length ≤ 60 := hat.2
  have hbs := hbel.size
  by_cases hlt : k < s.size
  ·by_cases h32 : s[k].toNat = 32
   ·have HN := Lib.hid (hat.space hlt h32)
    have h32' : ((s[k].toNat : Int) == 32) = true := by simp; omega
    clear hat h32
    go_wp2
    go_roundw
    case rel => exact ⟨k + 1, true, out, by omega, by go_num, rfl, HN.out, hfr, hown, hbel⟩
    case measure => simp [intOf]; omega
   ·have h32' : ((s[k].toNat : Int) == 32) = false := by simp; omega
    rcases cutEnd_ge s k with hneg | ⟨e, he, hke, hes⟩
    ·have HF := Lib.hid (tokRes_none (hat.bad hlt h32 (.inl hneg)))
     clear hat h32
     go_wp2_with (go_at_call 58; refine (impl_tokenAt s k _ (by omega) hlt).mono ?_; rintro e w' ⟨rfl, rfl⟩)
     go_ret2
     exact ret_no HF.out (by simp) hbel
    ·obtain ⟨a, cap, rfl, hcm⟩ := hown.slice
     by_cases h60 : out.length = 60
     ·have HF := Lib.hid (tokRes_none (hat.bad hlt h32 (.inr h60)))
      have h60' : ((out.length : Int) == 60) = true := by simp; omega
      clear hat h32 h60
      go_wp2_with (go_at_call 58; refine (impl_tokenAt s k _ (by omega) hlt).mono ?_; rw [he]; rintro e w' ⟨rfl, rfl⟩)
      go_ret2
      exact ret_no HF.out (by simp) hbel
     ·have HN := Lib.hid (hat.tok hlt h32 he h60)
      have HR := Lib.hid (hfr.snoc (k := k) (e := e) (sp := b) (c := s[k]) (Nat.le_refl s.size))
      have h60' : ((out.length : Int) == 60) = false := by simp; omega
      have hsl2 := fun W => (run_cut s (k : Int) (e : Int) k e rfl rfl (by omega) (by omega) W)
      clear hat h32 h60
      go_wp2_with (first
       | (go_at_call 58; refine (impl_tokenAt s k _ (by omega) hlt).mono ?_; rw [he]; rintro e w' ⟨rfl, rfl⟩)
       | (at_builtin; refine wp_append_tok rfl (.tmp 35) (.tmp 43) rfl w.heap.size _ out _ _ _ rfl hown rfl (by omega) hbs ?_; intro v1 w1 hown1 hg1))
      have hbel1 := hbel.grown hg1 hbs hown.mine
      go_roundw
      case rel => exact ⟨e, false, _, hes, rfl, rfl, HN.out, HR.out, hown1, hbel1⟩
      case measure => simp [intOf]; omega
  ·have HF := Lib.hid (tokRes_some H0.out (hat.done (by omega)))
   clear hat
   go_wp2
   go_ret2
   obtain ⟨fp, h1, h2, _⟩ := own_toks hown hfr (by omega)
   exact ret_toks (B := 0) HF.out h1 h2 hbel

end Go.Proofs.YtlegeancmcmbaaaDoor

/- The model's tokens. -/
namespace Go.Proofs.YtlegeancmcmbaaaDoor
open Go.RowKit

set_option maxHeartbeats 400000 in
theorem spec_l3Digit (c : UInt8) (w : World) :
  Calls Tryd.prog 83 #[.int .u8 (c.toNat : Int)] w fun e w' => e = .returned (.bool (isDig c)) ∧ w = w' := by
 go_enter Tryd.func83, Tryd.ntmps83
 go_wp2
 all_goals
  go_ret
  exact ⟨ret_bool (by rw [Bool.eq_iff_iff, isDig_iff]; simp <;> omega), rfl⟩

set_option maxHeartbeats 400000 in
theorem spec_l3Letter (c : UInt8) (w : World) :
  Calls Tryd.prog 82 #[.int .u8 (c.toNat : Int)] w fun e w' => e = .returned (.bool (isLet c)) ∧ w = w' := by
 go_enter Tryd.func82, Tryd.ntmps82
 go_wp2
 all_goals
  go_ret
  exact ⟨ret_bool (by rw [Bool.eq_iff_iff, isLet_iff]; simp <;> omega), rfl⟩

theorem word_of_let {c : UInt8} (h : isLet c = true) : isWord c = true := by unfold isWord; rw [h, Bool.true_or]
theorem word_of_no {c : UInt8} (h : isLet c = false) (h2 : isDig c = false) : isWord c = false := by unfold isWord; rw [h, h2]; rfl

set_option maxHeartbeats 400000 in
theorem spec_l3Back (s : ByteArray) (k0 e : Nat) (w : World) (hs : s.size ≤ 1000000) (he : e ≤ s.size) (h1 : 1 ≤ e) (hk0 : k0 < s.size) :
  Calls Tryd.prog 84 #[.string s, .int .i64 k0, .int .i64 e] w fun r w' => r = .returned (.bool (decide (bk s (k0 + 1) (e - 1) ≠ e - 1))) ∧ w = w' := by
 go_enter Tryd.func84, Tryd.ntmps84
 go_wp2
 go_loop [7] (fun i => ∃ k : Nat, k ≤ s.size + 1 ∧ i = .int .i64 k ∧ bk s k (e - 1) = bk s (k0 + 1) (e - 1)) (fun i => s.size + 1 - (intOf i).toNat)
 case atStart => exact ⟨k0 + 1, by omega, by go_num, rfl⟩
 case round =>
  obtain ⟨k, hk, rfl, hb⟩ := hrel
  by_cases hlt : k < e - 1
  ·have hlt' : (k : Int) < (e : Int) - 1 := by omega
   have hks : k < s.size := by omega
   by_cases h92 : s[k].toNat = 92
   ·have HF := Lib.hid ((bk_back hlt hks h92).symm.trans hb)
    have h92' : ((s[k].toNat : Int) == 92) = true := by simp; omega
    clear hb h92
    go_wp2
    go_round
    case rel => exact ⟨k + 2, by omega, by go_num, HF.out⟩
    case measure => simp [intOf]; omega
   ·have HF := Lib.hid ((bk_else hlt hks h92).symm.trans hb)
    have h92' : ((s[k].toNat : Int) == 92) = false := by simp; omega
    clear hb h92
    go_wp2
    go_round
    case rel => exact ⟨k + 1, by omega, by go_num, HF.out⟩
    case measure => simp [intOf]; omega
  ·have HF := Lib.hid ((bk_out (s := s) (k := k) (e := e - 1) (by omega)).symm.trans hb)
   have hge : ¬ (k : Int) < (e : Int) - 1 := by omega
   clear hb
   go_wp2
   go_ret
   exact ⟨ret_bool (by rw [← HF.out, Bool.eq_iff_iff]; simp; omega), rfl⟩

def NoMark (c : UInt8) (k : Nat) : Prop := ∀ j, (h : j < marks1.length) → j < k → marks1[j] ≠ c
theorem NoMark.zero (c : UInt8) : NoMark c 0 := by intro j h hj; omega
theorem NoMark.succ {c : UInt8} {k : Nat} (h : NoMark c k) (hk : k < marks1.length) (hc : marks1[k] ≠ c) : NoMark c (k + 1) := by
 intro j hj hjk
 by_cases e : j = k
 ·subst e; exact hc
 ·exact h j hj (by omega)
theorem NoMark.none {c : UInt8} (h : NoMark c 23) : ¬ c ∈ marks1 := by
 intro hc
 obtain ⟨i, hi, rfl⟩ := List.getElem_of_mem hc
 exact h i hi hi rfl

set_option maxHeartbeats 1000000 in
theorem spec_l3Mark (s : ByteArray) (k : Nat) (w : World) (hs : s.size ≤ 1000000) (hk : k < s.size) :
  Calls Tryd.prog 85 #[.string s, .int .i64 k] w fun e w' => e = .returned (.int .i64 (mLen s k : Nat)) ∧ ∃ n, w' = w.drewN n := by
 have hsl : ∀ W, (Instr.slice 9 (.string s) (some (.int .i64 (k : Int))) (some (.int .i64 (min (s.size : Int) ((k : Int) + 2)))) none).run Tryd.prog W = .ok (.string (s.extract k (k + 2))) W := by
  intro W
  rw [run_cut s _ _ k (min s.size (k + 2)) rfl (by omega) (by omega) (by omega) W, ext_min]
 have e1 := ext_two s k 61 61
 have e2 := ext_two s k 33 61
 have e3 := ext_two s k 60 61
 have e4 := ext_two s k 62 61
 have e5 := ext_two s k 38 38
 have e6 := ext_two s k 124 124
 have e7 := ext_two s k 35 35
 rcases eight s k with ⟨h1, HT⟩ | ⟨h1, h2, HT⟩ | ⟨h1, h2, h3, HT⟩ | ⟨h1, h2, h3, h4, HT⟩ | ⟨h1, h2, h3, h4, h5, HT⟩ | ⟨h1, h2, h3, h4, h5, h6, HT⟩ | ⟨h1, h2, h3, h4, h5, h6, h7, HT⟩ | ⟨h1, h2, h3, h4, h5, h6, h7, HT⟩
 iterate 7
  ·(try rw [h1] at e1); (try rw [h2] at e2); (try rw [h3] at e3); (try rw [h4] at e4); (try rw [h5] at e5); (try rw [h6] at e6); (try rw [h7] at e7)
   have HF : Hid (mLen s k = 2) := by show _ = _; unfold mLen; rw [if_pos HT.out]
   go_enter Tryd.func85, Tryd.ntmps85
   go_wp2
   go_ret
   exact ⟨ret_int (by rw [HF.out]; rfl), 0, rfl⟩
 ·rw [h1] at e1; rw [h2] at e2; rw [h3] at e3; rw [h4] at e4; rw [h5] at e5; rw [h6] at e6; rw [h7] at e7
  go_enter Tryd.func85, Tryd.ntmps85
  go_wp2
  go_loopw [7] (fun i wr => ∃ j : Nat, j ≤ 23 ∧ i = .int .i64 j ∧ NoMark s[k] j ∧ ∃ n, wr = w.drewN n) (fun i _ => 23 - (intOf i).toNat)
  case atStart => exact ⟨0, by omega, rfl, NoMark.zero _, 0, rfl⟩
  case round =>
   obtain ⟨j, hj, rfl, hno, n, rfl⟩ := hrel
   by_cases hlt : j < 23
   ·have hix : ∀ W, (Instr.index 9 (.string ⟨#[43, 45, 42, 47, 37, 60, 62, 61, 33, 38, 124, 40, 41, 44, 35, 59, 63, 58, 123, 125, 91, 93, 46]⟩) (.int .i64 (j : Int))).run Tryd.prog W = .ok (.int .u8 ((marks1[j]'hlt).toNat : Int)) W := by
     intro W
     have h1 : (0 : Int) ≤ (j : Int) ∧ (j : Int) < ((⟨#[43, 45, 42, 47, 37, 60, 62, 61, 33, 38, 124, 40, 41, 44, 35, 59, 63, 58, 123, 125, 91, 93, 46]⟩ : ByteArray).size : Int) := ⟨by omega, by show (j : Int) < 23; omega⟩
     rw [run_index_string W _ _ .i64 (j : Int) Tryd.underlying9, dif_pos h1]
     rfl
    by_cases hc : marks1[j]'hlt = s[k]
    ·have HF : Hid (mLen s k = 1) := mLen_one HT.out hk (hc ▸ List.getElem_mem hlt)
     have hce : (((marks1[j]'hlt).toNat : Int) == (s[k].toNat : Int)) = true := by rw [hc]; simp
     clear hc
     go_wp2
     go_quiet (fail)
     go_wp2
     go_ret
     exact ⟨ret_int (by rw [HF.out]; rfl), _, World.drewN_drewN _ _ _⟩
    ·have HN := Lib.hid (hno.succ hlt hc)
     have hce : (((marks1[j]'hlt).toNat : Int) == (s[k].toNat : Int)) = false := by
      rw [beq_eq_false_iff_ne]; intro h; exact hc (UInt8.toNat_inj.1 (by omega))
     clear hc hno
     go_wp2
     go_quiet (fail)
     go_wp2
     go_roundw
     case rel => exact ⟨j + 1, by omega, by go_num, HN.out, _, rfl⟩
     case measure => simp [intOf]; omega
   ·obtain rfl : j = 23 := by omega
    have HF : Hid (mLen s k = 0) := mLen_none HT.out hk hno.none
    go_wp2
    go_ret
    exact ⟨ret_int (by rw [HF.out]; rfl), _, rfl⟩

theorem sCut_w {s : ByteArray} {k : Nat} (h : k < s.size) (hl : isLet s[k] = true) : sCut s k = (1, (wEnd s (k + 1) : Int)) := by rw [sCut_word h (word_of_let hl), if_pos hl]
theorem sCut_d {s : ByteArray} {k : Nat} (h : k < s.size) (hl : isLet s[k] = false) (hd : isDig s[k] = true) : sCut s k = (2, (wEnd s (k + 1) : Int)) := by rw [sCut_word h (dig_word hd), if_neg (by simp [hl])]
theorem ret_cut {s : ByteArray} {k : Nat} {a b : Int} (h : sCut s k = (a, b)) : Ending.returned (.tuple #[.int .i64 a, .int .i64 b]) = .returned (.tuple #[.int .i64 (sCut s k).1, .int .i64 (sCut s k).2]) := by rw [h]

set_option maxHeartbeats 2000000 in
theorem cut_let (s : ByteArray) (k0 : Nat) (w : World) (hs : s.size ≤ 1000000) (hk0 : k0 < s.size) (hl : isLet s[k0] = true) :
  Calls Tryd.prog 62 #[.string s, .int .i64 k0] w fun e w' => e = .returned (.tuple #[.int .i64 (sCut s k0).1, .int .i64 (sCut s k0).2]) ∧ ∃ n, w' = w.drewN n := by
 have HF := Lib.hid (sCut_w hk0 hl)
 go_enter Tryd.func62, Tryd.ntmps62
 go_wp2_with (first
  | (go_at_call 82; refine (spec_l3Letter _ _).mono ?_; rw [hl]; rintro e w' ⟨rfl, rfl⟩))
 go_loop [6] (fun i => ∃ k : Nat, k0 + 1 ≤ k ∧ k ≤ s.size ∧ i = .int .i64 k ∧ wEnd s k = wEnd s (k0 + 1)) (fun i => s.size - (intOf i).toNat)
 case atStart => exact ⟨k0 + 1, by omega, by omega, by go_num, rfl⟩
 case round =>
  obtain ⟨k, hk1, hk, rfl, he⟩ := hrel
  have HE := Lib.hid he; clear he
  by_cases hlt : k < s.size
  ·cases hl2 : isLet s[k]
   ·cases hd2 : isDig s[k]
    ·have HG := Lib.hid ((wEnd_stop hlt (word_of_no hl2 hd2)).symm.trans HE.out)
     go_wp2_with (first
      | (go_at_call 82; refine (spec_l3Letter _ _).mono ?_; (first | rw [hl2] | rw [hl]); rintro e w' ⟨rfl, rfl⟩)
      | (go_at_call 83; refine (spec_l3Digit _ _).mono ?_; rw [hd2]; rintro e w' ⟨rfl, rfl⟩))
     go_ret2
     exact ⟨ret_cut (by rw [HF.out, ← HG.out]), 0, rfl⟩
    ·have HG := Lib.hid ((wEnd_in hlt (dig_word hd2)).symm.trans HE.out)
     go_wp2_with (first
      | (go_at_call 82; refine (spec_l3Letter _ _).mono ?_; rw [hl2]; rintro e w' ⟨rfl, rfl⟩)
      | (go_at_call 83; refine (spec_l3Digit _ _).mono ?_; rw [hd2]; rintro e w' ⟨rfl, rfl⟩))
     go_round
     case rel => exact ⟨k + 1, by omega, by omega, by go_num, HG.out⟩
     case measure => simp [intOf]; omega
   ·have HG := Lib.hid ((wEnd_in hlt (word_of_let hl2)).symm.trans HE.out)
    go_wp2_with (first
     | (go_at_call 82; refine (spec_l3Letter _ _).mono ?_; rw [hl2]; rintro e w' ⟨rfl, rfl⟩))
    go_round
    case rel => exact ⟨k + 1, by omega, by omega, by go_num, HG.out⟩
    case measure => simp [intOf]; omega
  ·have HG := Lib.hid ((wEnd_out (s := s) (k := k) (by omega)).symm.trans HE.out)
   go_wp2_with (first
    | (go_at_call 82; refine (spec_l3Letter _ _).mono ?_; rw [hl]; rintro e w' ⟨rfl, rfl⟩))
   go_ret2
   exact ⟨ret_cut (by rw [HF.out, ← HG.out]), 0, rfl⟩

set_option maxHeartbeats 2000000 in
theorem cut_dig (s : ByteArray) (k0 : Nat) (w : World) (hs : s.size ≤ 1000000) (hk0 : k0 < s.size) (hl : isLet s[k0] = false) (hd : isDig s[k0] = true) :
  Calls Tryd.prog 62 #[.string s, .int .i64 k0] w fun e w' => e = .returned (.tuple #[.int .i64 (sCut s k0).1, .int .i64 (sCut s k0).2]) ∧ ∃ n, w' = w.drewN n := by
 have HF := Lib.hid (sCut_d hk0 hl hd)
 go_enter Tryd.func62, Tryd.ntmps62
 go_wp2_with (first
  | (go_at_call 82; refine (spec_l3Letter _ _).mono ?_; rw [hl]; rintro e w' ⟨rfl, rfl⟩)
  | (go_at_call 83; refine (spec_l3Digit _ _).mono ?_; rw [hd]; rintro e w' ⟨rfl, rfl⟩))
 go_loop [6] (fun i => ∃ k : Nat, k0 + 1 ≤ k ∧ k ≤ s.size ∧ i = .int .i64 k ∧ wEnd s k = wEnd s (k0 + 1)) (fun i => s.size - (intOf i).toNat)
 case atStart => exact ⟨k0 + 1, by omega, by omega, by go_num, rfl⟩
 case round =>
  obtain ⟨k, hk1, hk, rfl, he⟩ := hrel
  have HE := Lib.hid he; clear he
  by_cases hlt : k < s.size
  ·cases hl2 : isLet s[k]
   ·cases hd2 : isDig s[k]
    ·have HG := Lib.hid ((wEnd_stop hlt (word_of_no hl2 hd2)).symm.trans HE.out)
     go_wp2_with (first
      | (go_at_call 82; refine (spec_l3Letter _ _).mono ?_; (first | rw [hl2] | rw [hl]); rintro e w' ⟨rfl, rfl⟩)
      | (go_at_call 83; refine (spec_l3Digit _ _).mono ?_; rw [hd2]; rintro e w' ⟨rfl, rfl⟩))
     go_ret2
     exact ⟨ret_cut (by rw [HF.out, ← HG.out]), 0, rfl⟩
    ·have HG := Lib.hid ((wEnd_in hlt (dig_word hd2)).symm.trans HE.out)
     go_wp2_with (first
      | (go_at_call 82; refine (spec_l3Letter _ _).mono ?_; rw [hl2]; rintro e w' ⟨rfl, rfl⟩)
      | (go_at_call 83; refine (spec_l3Digit _ _).mono ?_; rw [hd2]; rintro e w' ⟨rfl, rfl⟩))
     go_round
     case rel => exact ⟨k + 1, by omega, by omega, by go_num, HG.out⟩
     case measure => simp [intOf]; omega
   ·have HG := Lib.hid ((wEnd_in hlt (word_of_let hl2)).symm.trans HE.out)
    go_wp2_with (first
     | (go_at_call 82; refine (spec_l3Letter _ _).mono ?_; rw [hl2]; rintro e w' ⟨rfl, rfl⟩))
    go_round
    case rel => exact ⟨k + 1, by omega, by omega, by go_num, HG.out⟩
    case measure => simp [intOf]; omega
  ·have HG := Lib.hid ((wEnd_out (s := s) (k := k) (by omega)).symm.trans HE.out)
   go_wp2_with (first
    | (go_at_call 82; refine (spec_l3Letter _ _).mono ?_; rw [hl]; rintro e w' ⟨rfl, rfl⟩))
   go_ret2
   exact ⟨ret_cut (by rw [HF.out, ← HG.out]), 0, rfl⟩

set_option maxHeartbeats 2000000 in
theorem cut_no (s : ByteArray) (k0 : Nat) (w : World) (hs : s.size ≤ 1000000) (hk0 : k0 < s.size) (hw : isWord s[k0] = false) :
  Calls Tryd.prog 62 #[.string s, .int .i64 k0] w fun e w' => e = .returned (.tuple #[.int .i64 (sCut s k0).1, .int .i64 (sCut s k0).2]) ∧ ∃ n, w' = w.drewN n := by
 have hl : isLet s[k0] = false := by unfold isWord at hw; rw [Bool.or_eq_false_iff] at hw; exact hw.1
 have hd : isDig s[k0] = false := by unfold isWord at hw; rw [Bool.or_eq_false_iff] at hw; exact hw.2
 by_cases hq : s[k0].toNat = 34
 ·have h34 : ((s[k0].toNat : Int) == 34) = true := by simp; omega
  cases hc : tClose s (k0 + 1) with
  |
   some e =>
   have HF := Lib.hid (sCut_closed hk0 hw hq hc)
   obtain ⟨c1, c2, c3, c4, c5⟩ := tClose_some hc
   have hb := bk_closed hc
   have hB : decide (bk s (k0 + 1) (e - 1) ≠ e - 1) = false := by simp [hb]
   have h5 : ((s[e - 1].toNat : Int) != 34) = false := by simp; omega
   have h6 : ((e : Int) - 1).toNat = e - 1 := by omega
   clear hb hc hq
   go_enter Tryd.func62, Tryd.ntmps62
   go_wp2_with (first
    | (go_at_call 82; refine (spec_l3Letter _ _).mono ?_; rw [hl]; rintro e w' ⟨rfl, rfl⟩)
    | (go_at_call 83; refine (spec_l3Digit _ _).mono ?_; rw [hd]; rintro e w' ⟨rfl, rfl⟩)
    | (go_at_call 61; refine (spec_l2Text s k0 _ hs hk0).mono ?_; rw [c3]; rintro e w' ⟨rfl, rfl⟩)
    | (go_at_call 84; refine (spec_l3Back s k0 e _ hs c2 (by omega) hk0).mono ?_; rw [hB]; rintro e w' ⟨rfl, rfl⟩))
   go_ret2
   exact ⟨ret_cut HF.out, 0, rfl⟩
  |
   none =>
   have HF := Lib.hid (sCut_open hk0 hw hq hc)
   have c3 := tClose_none hc
   have hord : k0 + 1 = s.size ∨ (k0 + 1 < s.size ∧ ((s[s.size - 1].toNat : Int) != 34) = true) ∨ (k0 + 1 < s.size ∧ ((s[s.size - 1].toNat : Int) != 34) = false ∧ decide (bk s (k0 + 1) (s.size - 1) ≠ s.size - 1) = true) := by
    by_cases h1 : k0 + 1 < s.size
    ·by_cases h2 : s[s.size - 1].toNat = 34
     ·exact .inr (.inr ⟨h1, by simp; omega, by simpa using bk_open hc h1 h2⟩)
     ·exact .inr (.inl ⟨h1, by simp; omega⟩)
    ·exact .inl (by omega)
   clear hc hq
   have h6 : ((s.size : Int) - 1).toNat = s.size - 1 := by omega
   go_enter Tryd.func62, Tryd.ntmps62
   rcases hord with h7 | ⟨h7, h5⟩ | ⟨h7, h5, hB⟩
   all_goals
    go_wp2_with (first
     | (go_at_call 82; refine (spec_l3Letter _ _).mono ?_; rw [hl]; rintro e w' ⟨rfl, rfl⟩)
     | (go_at_call 83; refine (spec_l3Digit _ _).mono ?_; rw [hd]; rintro e w' ⟨rfl, rfl⟩)
     | (go_at_call 61; refine (spec_l2Text s k0 _ hs hk0).mono ?_; rw [c3]; rintro e w' ⟨rfl, rfl⟩)
     | (go_at_call 84; refine (spec_l3Back s k0 s.size _ hs (Nat.le_refl _) (by omega) hk0).mono ?_; rw [hB]; rintro e w' ⟨rfl, rfl⟩))
    go_ret2
    exact ⟨ret_cut HF.out, 0, rfl⟩
 ·have h34 : ((s[k0].toNat : Int) == 34) = false := by simp; omega
  have HF := Lib.hid (sCut_mark hk0 hw hq)
  have hml := (mLen_room (s := s) hk0).2
  clear hq
  go_enter Tryd.func62, Tryd.ntmps62
  go_wp2_with (first
   | (go_at_call 82; refine (spec_l3Letter _ _).mono ?_; rw [hl]; rintro e w' ⟨rfl, rfl⟩)
   | (go_at_call 83; refine (spec_l3Digit _ _).mono ?_; rw [hd]; rintro e w' ⟨rfl, rfl⟩)
   | (go_at_call 85; refine (spec_l3Mark s k0 _ hs hk0).mono ?_; rintro e w' ⟨rfl, n, rfl⟩))
  go_ret2
  exact ⟨ret_cut (by rw [HF.out]; simp), _, rfl⟩

theorem spec_l3Cut (s : ByteArray) (k0 : Nat) (w : World) (hs : s.size ≤ 1000000) (hk0 : k0 < s.size) :
  Calls Tryd.prog 62 #[.string s, .int .i64 k0] w fun e w' => e = .returned (.tuple #[.int .i64 (sCut s k0).1, .int .i64 (sCut s k0).2]) ∧ ∃ n, w' = w.drewN n := by
 cases hw : isWord s[k0]
 ·exact cut_no s k0 w hs hk0 hw
 ·cases h : isLet s[k0]
  ·unfold isWord at hw
   rw [h, Bool.false_or] at hw
   exact cut_dig s k0 w hs hk0 h hw
  ·exact cut_let s k0 w hs hk0 h

end Go.Proofs.YtlegeancmcmbaaaDoor

/- TokensOf of the model; TokenValid of both. -/
namespace Go.Proofs.YtlegeancmcmbaaaDoor
open Go.RowKit

theorem TokRow.below {base : Nat} {v : Value} {l : List Tok} {w w' : World} (h : TokRow base v l w) (hb : Below w.heap.size w w') : TokRow base v l w' := by
 refine ⟨h.1, ?_⟩
 rcases h.2 with h0 | ⟨g, cap, cur, h1, h2, h3, h4⟩
 ·exact .inl h0
 ·exact .inr ⟨g, cap, cur, h1, h2, (hb.block g (Array.getElem?_eq_some_iff.1 h3).1).trans h3, h4⟩
theorem TokRow.empty (w : World) : TokRow w.heap.size (.slice (some ⟨w.heap.size, 0, none⟩) 0 0) [] (w.alloc (.cells #[] 47)) :=
 ⟨rfl, .inr ⟨w.heap.size, 0, #[], rfl, Nat.le_refl _, by show (w.heap.push _)[w.heap.size]? = _; simp, Nat.le_refl _, by simp, rfl, rfl⟩⟩
theorem cutGood {s : ByteArray} {k e : Nat} (hk : k < s.size) (he : cutEnd s k = e) : sCut s k = (cutKind s[k], (e : Int)) ∧ 1 ≤ cutKind s[k] ∧ cutKind s[k] ≤ 4 ∧ (cutKind s[k] ≤ 2 → (e : Int) - (k : Int) ≤ 12) := by
 have h := sCut_good hk (by omega)
 rw [he] at h
 obtain ⟨h1, h2⟩ := h
 have h3 := cutKind_in s[k]
 refine ⟨h2, h3.1, h3.2, fun h => ?_⟩
 rw [h2] at h1
 unfold SBad at h1
 simp only at h1
 omega
theorem cutBad {s : ByteArray} {k : Nat} (hk : k < s.size) (h : cutEnd s k < 0) : ∃ a b : Int, sCut s k = (a, b) ∧ (b = k ∨ b ≠ k ∧ a = 0 ∨ b ≠ k ∧ a = 1 ∧ 12 < b - k ∨ b ≠ k ∧ a = 2 ∧ 12 < b - k) := by
 have h1 := sCut_bad hk h
 unfold SBad at h1
 exact ⟨(sCut s k).1, (sCut s k).2, rfl, by omega⟩
theorem sCut_room {s : ByteArray} {k : Nat} (hk : k < s.size) : 0 ≤ (sCut s k).2 ∧ (sCut s k).2 ≤ 1000000 + s.size := by
 cases hw : isWord s[k]
 ·by_cases hq : s[k].toNat = 34
  ·cases hc : tClose s (k + 1) with
   | none => rw [sCut_open hk hw hq hc]; constructor <;> simp only <;> omega
   | some e => have := tClose_some hc; rw [sCut_closed hk hw hq hc]; constructor <;> simp only <;> omega
  ·have := mLen_room hk; rw [sCut_mark hk hw hq]; constructor <;> simp only <;> omega
 ·have := (wEnd_bounds s (k + 1)).2 (by omega)
  rw [sCut_word hk hw]; constructor <;> simp only <;> omega

def TokRowed (s : ByteArray) (w : World) (e : Ending) (w' : World) : Prop :=
 ∃ v, e = .returned (.tuple #[v, .bool (tokRes s).2]) ∧ TokRow w.heap.size v (tokRes s).1 w' ∧ Fresh s.size (tokRes s).1 ∧ Below w.heap.size w w'
theorem TokRow.emptyAt {base : Nat} (w : World) (h : base ≤ w.heap.size) : TokRow base (.slice (some ⟨w.heap.size, 0, none⟩) 0 0) [] (w.alloc (.cells #[] 47)) :=
 ⟨rfl, .inr ⟨w.heap.size, 0, #[], rfl, h, by show (w.heap.push _)[w.heap.size]? = _; simp, Nat.le_refl _, by simp, rfl, rfl⟩⟩
theorem ret_no2 {s : ByteArray} (h : tokRes s = ([], false)) {w W : World} (hb : Below w.heap.size w W) (hs : w.heap.size ≤ W.heap.size) :
  TokRowed s w (.returned (.tuple #[.slice (some ⟨W.heap.size, 0, none⟩) 0 0, .bool false])) (W.alloc (.cells #[] 47)) := by
 unfold TokRowed; rw [h]; exact ⟨_, rfl, TokRow.emptyAt W hs, Fresh.nil _, hb.alloc hs _⟩
theorem ret_toks2 {v : Value} {l : List Tok} {s : ByteArray} (h : tokRes s = (l, true)) {w w' : World} (hr : TokRow w.heap.size v l w') (hf : Fresh s.size l) (hb : Below w.heap.size w w') :
  TokRowed s w (.returned (.tuple #[v, .bool true])) w' := by
 unfold TokRowed; rw [h]; exact ⟨v, rfl, hr, hf, hb⟩

set_option maxHeartbeats 8000000 in
theorem spec_TokensOf_row (s : ByteArray) (w : World) (hs : s.size ≤ maxLen) :
  Calls Tryd.prog 37 #[.string s] w (TokRowed s w) := by
 have hm := hs
 unfold maxLen at hm
 cases h0 : lineOk s
 ·have HF := Lib.hid (tokRes_bad h0)
  go_enter Tryd.func37, Tryd.ntmps37
  go_wp2_with (go_at_call 59; refine (spec_LineValid _ _ hs).mono ?_; rw [h0]; rintro e w' ⟨rfl, rfl⟩)
  go_ret2
  exact ret_no2 HF.out (Below.refl _ _) (Nat.le_refl _)
 have hsz := lineOk_size' h0
 have H0 := Lib.hid h0
 go_enter Tryd.func37, Tryd.ntmps37
 go_wp2_with (go_at_call 59; refine (spec_LineValid _ _ hs).mono ?_; rw [h0]; rintro e w' ⟨rfl, rfl⟩)
 clear h0
 go_loopw [4, 5, 6] (fun v sp i wr => ∃ (k : Nat) (b : Bool) (out : List Tok), k ≤ s.size ∧ i = .int .i64 k ∧ sp = .bool b ∧ AtT s k b out ∧ Fresh s.size out ∧ TokRow w.heap.size v out wr ∧ Below w.heap.size w wr) (fun _ _ i _ => s.size - (intOf i).toNat)
 case atStart => exact ⟨0, false, [], by omega, rfl, rfl, AtT.zero s, Fresh.nil _, TokRow.empty _, (Below.refl _ _).alloc (Nat.le_refl _) _⟩
 case round =>
  obtain ⟨k, b, out, hk, rfl, rfl, hat, hfr, hown, hbel⟩ := hrel
  have ho : out.length ≤ 60 := hat.2
  have hbs := hbel.size
  by_cases hlt : k < s.size
  ·by_cases h32 : s[k].toNat = 32
   ·have HN := Lib.hid (hat.space hlt h32)
    have h32' : ((s[k].toNat : Int) == 32) = true := by simp; omega
    clear hat h32
    go_wp2
    go_roundw
    case rel => exact ⟨k + 1, true, out, by omega, by go_num, rfl, HN.out, hfr, hown, hbel⟩
    case measure => simp [intOf]; omega
   ·have h32' : ((s[k].toNat : Int) == 32) = false := by simp; omega
    have hro := sCut_room hlt
    rcases cutEnd_ge s k with hneg | ⟨e, he, hke, hes⟩
    ·have HF := Lib.hid (tokRes_none (hat.bad hlt h32 (.inl hneg)))
     obtain ⟨a, b2, hab, hways⟩ := cutBad hlt hneg
     rw [hab] at hro
     have HC : Hid (∀ W, Calls Tryd.prog 62 #[.string s, .int .i64 k] W fun e w' => e = .returned (.tuple #[.int .i64 a, .int .i64 b2]) ∧ ∃ n, w' = W.drewN n) := fun W => by have := spec_l3Cut s k W (by omega) hlt; rw [hab] at this; exact this
     clear hat h32 hab
     obtain ⟨ho1, ho2⟩ := hro
     simp only at ho1 ho2
     rcases hways with h1 | ⟨h1, h2⟩ | ⟨h1, h2, h3⟩ | ⟨h1, h2, h3⟩
     ·subst h1
      go_wp2_with (go_at_call 62; refine (HC.out _).mono ?_; rintro e w' ⟨rfl, n, rfl⟩)
      go_ret2
      exact ret_no2 HF.out (belowN hbel n) hbs
     all_goals
      subst h2
      have h1' : (b2 == (k : Int)) = false := by simp; omega
      clear h1
      go_wp2_with (go_at_call 62; refine (HC.out _).mono ?_; rintro e w' ⟨rfl, n, rfl⟩)
      go_ret2
      exact ret_no2 HF.out (belowN hbel n) hbs
    ·obtain ⟨a, cap, rfl, hcm⟩ := hown.slice
     obtain ⟨hab, hk1, hk2, hk3⟩ := cutGood hlt he
     have HC : Hid (∀ W, Calls Tryd.prog 62 #[.string s, .int .i64 k] W fun r w' => r = .returned (.tuple #[.int .i64 (cutKind s[k]), .int .i64 e]) ∧ ∃ n, w' = W.drewN n) := fun W => by have := spec_l3Cut s k W (by omega) hlt; rw [hab] at this; exact this
     have hek : ((e : Int) == (k : Int)) = false := by simp; omega
     clear hro hab
     by_cases h60 : out.length = 60
     ·have HF := Lib.hid (tokRes_none (hat.bad hlt h32 (.inr h60)))
      have h60' : ((out.length : Int) == 60) = true := by simp; omega
      clear hat h32 h60
      generalize cutKind s[k] = K at *
      have hK : (K = 1 ∧ (e : Int) - (k : Int) ≤ 12) ∨ (K = 2 ∧ (e : Int) - (k : Int) ≤ 12) ∨ (K = 3 ∧ k < e) ∨ (K = 4 ∧ k < e) := by omega
      clear hk3
      rcases hK with ⟨rfl, hk5⟩ | ⟨rfl, hk5⟩ | ⟨rfl, hk5⟩ | ⟨rfl, hk5⟩
      all_goals
       go_wp2_with (go_at_call 62; refine (HC.out _).mono ?_; rintro e w' ⟨rfl, n, rfl⟩)
       go_ret2
       exact ret_no2 HF.out (belowN hbel n) hbs
     ·have HN := Lib.hid (hat.tok hlt h32 he h60)
      have HR := Lib.hid (hfr.snoc (k := k) (e := e) (sp := b) (c := s[k]) (Nat.le_refl s.size))
      have h60' : ((out.length : Int) == 60) = false := by simp; omega
      have hsl2 := fun W => (run_cut s (k : Int) (e : Int) k e rfl rfl (by omega) (by omega) W)
      clear hat h32 h60
      generalize cutKind s[k] = K at *
      have hK : (K = 1 ∧ (e : Int) - (k : Int) ≤ 12) ∨ (K = 2 ∧ (e : Int) - (k : Int) ≤ 12) ∨ (K = 3 ∧ k < e) ∨ (K = 4 ∧ k < e) := by omega
      clear hk3
      rcases hK with ⟨rfl, hk5⟩ | ⟨rfl, hk5⟩ | ⟨rfl, hk5⟩ | ⟨rfl, hk5⟩
      all_goals
       go_wp2_with (first
        | (go_at_call 62; refine (HC.out _).mono ?_; rintro e w' ⟨rfl, n, rfl⟩)
        | (at_builtin; refine wp_append_tok rfl (.tmp 57) (.tmp 65) rfl w.heap.size _ out _ _ _ rfl (hown.drew _) rfl (by omega) hbs ?_; intro v1 w1 hown1 hg1))
       have hbel1 := (belowN hbel _).grown hg1 hbs hown.mine
       go_roundw
       case rel => exact ⟨e, false, _, hes, rfl, rfl, HN.out, HR.out, hown1, hbel1⟩
       case measure => simp [intOf]; omega
  ·have HF := Lib.hid (tokRes_some H0.out (hat.done (by omega)))
   clear hat
   go_wp2
   go_ret2
   exact ret_toks2 HF.out hown hfr hbel

theorem spec_TokensOf (s : ByteArray) (w : World) (hs : s.size ≤ maxLen) :
  Calls Tryd.prog 37 #[.string s] w (TokMade (tokRes s) w) := by
 refine (spec_TokensOf_row s w hs).mono ?_
 rintro e w' ⟨v, rfl, h1, h2, h3⟩
 have hsz : (tokRes s).1 = [] ∨ s.size ≤ 200 := by
  cases h0 : lineOk s
  ·left; rw [tokRes_bad h0]
  ·right; exact lineOk_size' h0
 rcases hsz with h | h
 ·rw [h] at h1 h2
  obtain ⟨fp, a, b, _⟩ := own_toks (B := 0) h1 (Fresh.nil _) (by omega)
  exact ⟨v, fp, rfl, by rw [h]; exact a, b, h3⟩
 ·obtain ⟨fp, a, b, _⟩ := own_toks h1 h2 (by omega)
  exact ⟨v, fp, rfl, a, b, h3⟩

end Go.Proofs.YtlegeancmcmbaaaDoor

/- TokenValid: no program. -/
namespace Go.Proofs.YtlegeancmcmbaaaDoor
open Go.RowKit

theorem bytesLess_flip : ∀ (x y : List UInt8), Op.bytesLess x y = !(Op.bytesLess y x || y == x)
 | [], [] => rfl
 | _ :: _, [] => by simp [Op.bytesLess]
 | [], _ :: _ => by simp [Op.bytesLess]
 |
  a :: x, b :: y => by
  have ih := bytesLess_flip x y
  simp only [Op.bytesLess, ih]
  by_cases h : a = b
  ·subst h
   have h1 : decide (a < a) = false := by simp [UInt8.lt_irrefl]
   rw [h1]
   cases hL : Op.bytesLess y x <;> by_cases hE : y = x <;> simp [hE]
  ·have h2 : (a == b) = false := by simp [h]
   have h3 : (b == a) = false := by simp [Ne.symm h]
   have h4 : ((b :: y) == (a :: x)) = false := by simp [Ne.symm h]
   rw [h2, h3, h4]
   have : decide (a < b) = !decide (b < a) := by
    by_cases hl : a < b
    ·have := UInt8.lt_asymm hl; simp [hl, this]
    ·have : b < a := by
      rw [UInt8.lt_iff_toNat_lt] at hl ⊢
      have : a.toNat ≠ b.toNat := fun e => h (UInt8.toNat_inj.1 e)
      omega
     simp [hl, this]
   rw [this]; simp

def sLess (a b : ByteArray) : Bool := Op.bytesLess a.toList b.toList
theorem sLess_no {a b : ByteArray} (h : sLess a b = false) : (Op.bytesLess b.toList a.toList || b.toList == a.toList) = true := by
 unfold sLess at h; rw [bytesLess_flip] at h; cases hx : (Op.bytesLess b.toList a.toList || b.toList == a.toList)
 ·rw [hx] at h; exact absurd h (by decide)
 ·rfl
theorem sLess_yes {a b : ByteArray} (h : sLess a b = true) : (Op.bytesLess b.toList a.toList || b.toList == a.toList) = false := by
 unfold sLess at h; rw [bytesLess_flip] at h; simpa using h

theorem toks_fit (s : ByteArray) : ∀ (k : Nat) (sp : Bool) (n : Nat) (l : List Tok), toks s k sp n = some l → k ≤ s.size → ∀ t ∈ l, t.text.size ≤ s.size - k := by
 intro k sp n
 induction k, sp, n using toks.induct (s := s) with
 |
  case1 k sp n hk h32 ih =>
  intro l h hks t ht
  rw [toks, dif_pos hk, if_pos h32] at h
  have := ih l h (by omega) t ht
  omega
 |
  case2 k sp n hk h32 hb =>
  intro l h hks t ht
  rw [toks, dif_pos hk, if_neg h32, if_pos hb] at h
  exact absurd h (by simp)
 |
  case3 k sp n hk h32 hb ih =>
  intro l h hks t ht
  rw [toks, dif_pos hk, if_neg h32, if_neg hb] at h
  have hr := cutEnd_room (s := s) (k := k) (by omega)
  rw [Option.map_eq_some_iff] at h
  obtain ⟨l', h1, rfl⟩ := h
  rcases List.mem_cons.1 ht with rfl | ht
  ·show (s.extract k (cutEnd s k).toNat).size ≤ _; rw [ByteArray.size_extract]; omega
  ·have := ih l' h1 (by omega) t ht
   omega
 |
  case4 k sp n hk =>
  intro l h hks t ht
  rw [toks, dif_neg hk] at h
  simp only [Option.some.injEq] at h
  subst h; simp at ht
theorem toks_first {s : ByteArray} {t : Tok} {l : List Tok} (h : toks s 0 false 0 = some (t :: l)) (ht : t.text = s) : t.spaced = false := by
 by_cases h0 : 0 < s.size
 ·by_cases h32 : s[0].toNat = 32
  ·rw [toks, dif_pos h0, if_pos h32] at h
   have := toks_fit s 1 true 0 _ h (by omega) t (by simp)
   rw [ht] at this
   omega
  ·rw [toks, dif_pos h0, if_neg h32] at h
   split at h
   ·simp at h
   ·rw [Option.map_eq_some_iff] at h
    obtain ⟨l', _, h2⟩ := h
    simp only [List.cons.injEq] at h2
    rw [← h2.1]
 ·rw [toks, dif_neg h0] at h; simp at h
theorem tokRes_true {s : ByteArray} {l : List Tok} (h : tokRes s = (l, true)) : toks s 0 false 0 = some l ∧ lineOk s = true := by
 unfold tokRes at h
 cases h0 : lineOk s
 ·rw [h0, if_neg (by simp)] at h; simp at h
 ·rw [h0, if_pos rfl] at h
  cases h1 : toks s 0 false 0 with
  | none => rw [h1] at h; simp at h
  | some l' => rw [h1] at h; simp at h; rw [h]; exact ⟨rfl, rfl⟩
theorem tokRes_false {s : ByteArray} {l : List Tok} (h : tokRes s = (l, false)) : l = [] := by
 unfold tokRes at h
 split at h
 ·split at h
  ·simp at h
  ·simp at h; exact h
 ·simp at h; exact h

def oneTok (x : ByteArray) (k : Int) : Bool := (tokRes x).2 && decide ((tokRes x).1.length = 1) && (tokRes x).1.all (fun t => decide (t.kind = k) && decide (t.text = x))
theorem one_ways (x : ByteArray) (k : Int) :
  (tokRes x = ([], false) ∧ Hid (oneTok x k = false)) ∨
  (∃ l, tokRes x = (l, true) ∧ l.length ≠ 1 ∧ Hid (oneTok x k = false)) ∨
  (∃ t, tokRes x = ([t], true) ∧ t.kind ≠ k ∧ Hid (oneTok x k = false)) ∨
  (∃ t, tokRes x = ([t], true) ∧ t.kind = k ∧ t.text ≠ x ∧ Hid (oneTok x k = false)) ∨
  (∃ t, tokRes x = ([t], true) ∧ t.kind = k ∧ t.text = x ∧ t.spaced = false ∧ Hid (oneTok x k = true)) := by
 rcases hr : tokRes x with ⟨l, ok⟩
 cases ok
 ·obtain rfl := tokRes_false hr
  exact .inl ⟨rfl, by simp [Hid, oneTok, hr]⟩
 ·by_cases h1 : l.length = 1
  ·obtain ⟨t, rfl⟩ := List.length_eq_one_iff.1 h1
   by_cases h2 : t.kind = k
   ·by_cases h3 : t.text = x
    ·exact .inr (.inr (.inr (.inr ⟨t, rfl, h2, h3, toks_first (tokRes_true hr).1 h3, by simp [Hid, oneTok, hr, h2, h3]⟩)))
    ·exact .inr (.inr (.inr (.inl ⟨t, rfl, h2, h3, by simp [Hid, oneTok, hr, h2, h3]⟩)))
   ·exact .inr (.inr (.inl ⟨t, rfl, h2, by simp [Hid, oneTok, hr, h2]⟩))
  ·exact .inr (.inl ⟨l, rfl, h1, by simp [Hid, oneTok, hr, h1]⟩)

def hidOkAt (l : List ByteArray) (i : Nat) : Bool := if h : i < l.length then oneTok l[i] 1 && (decide (i = 0) || sLess (l[i - 1]'(by omega)) l[i]) else true
def hidOk (l : List ByteArray) : Bool := decide (l.length ≤ 60) && (List.range l.length).all (hidOkAt l)
def HidUpto (l : List ByteArray) (k : Nat) : Prop := ∀ j, j < k → hidOkAt l j = true
theorem HidUpto.zero (l : List ByteArray) : HidUpto l 0 := by intro j h; omega
theorem HidUpto.succ {l : List ByteArray} {k : Nat} (h : HidUpto l k) (h1 : hidOkAt l k = true) : HidUpto l (k + 1) := by
 intro j hj
 by_cases e : j = k
 ·subst e; exact h1
 ·exact h j (by omega)
theorem hidOk_long {l : List ByteArray} (h : 60 < l.length) : hidOk l = false := by unfold hidOk; rw [decide_eq_false (by omega)]; rfl
theorem hidOk_no {l : List ByteArray} {k : Nat} (hk : k < l.length) (h : hidOkAt l k = false) : hidOk l = false := by
 unfold hidOk
 have : (List.range l.length).all (hidOkAt l) = false := by
  rw [List.all_eq_false]; exact ⟨k, by simpa using hk, by simp [h]⟩
 rw [this, Bool.and_false]
theorem hidOk_yes {l : List ByteArray} {k : Nat} (h : HidUpto l k) (hk : l.length ≤ k) (hl : l.length ≤ 60) : hidOk l = true := by
 unfold hidOk
 rw [decide_eq_true hl, Bool.true_and, List.all_eq_true]
 intro i hi
 have : i < l.length := by simpa using hi
 exact h i (by omega)
theorem hidAt_name {l : List ByteArray} {k : Nat} (hk : k < l.length) (h : oneTok l[k] 1 = false) : hidOkAt l k = false := by unfold hidOkAt; rw [dif_pos hk, h]; rfl
theorem hidAt_less {l : List ByteArray} {k : Nat} (hk : k < l.length) (h0 : 0 < k) (h : sLess (l[k - 1]'(by omega)) l[k] = false) : hidOkAt l k = false := by
 unfold hidOkAt; rw [dif_pos hk, h, decide_eq_false (by omega)]; simp
theorem hidAt_first {l : List ByteArray} (hk : 0 < l.length) (h : oneTok l[0] 1 = true) : hidOkAt l 0 = true := by unfold hidOkAt; rw [dif_pos hk, h]; simp
theorem hidAt_later {l : List ByteArray} {k : Nat} (hk : k < l.length) (h0 : 0 < k) (h : oneTok l[k] 1 = true) (h2 : sLess (l[k - 1]'(by omega)) l[k] = true) : hidOkAt l k = true := by
 unfold hidOkAt; rw [dif_pos hk, h, h2]; simp
theorem hid_ways {l : List ByteArray} {k : Nat} (hk : k < l.length) :
  (oneTok l[k] 1 = false ∧ Hid (hidOkAt l k = false)) ∨ (oneTok l[k] 1 = true ∧ k = 0 ∧ Hid (hidOkAt l k = true)) ∨
  (∃ hp : 0 < k, oneTok l[k] 1 = true ∧ sLess (l[k - 1]'(by omega)) l[k] = false ∧ Hid (hidOkAt l k = false)) ∨
  (∃ hp : 0 < k, oneTok l[k] 1 = true ∧ sLess (l[k - 1]'(by omega)) l[k] = true ∧ Hid (hidOkAt l k = true)) := by
 cases h : oneTok l[k] 1
 ·exact .inl ⟨rfl, hidAt_name hk h⟩
 ·by_cases h0 : k = 0
  ·subst h0; exact .inr (.inl ⟨rfl, rfl, hidAt_first hk h⟩)
  ·cases h2 : sLess (l[k - 1]'(by omega)) l[k]
   ·exact .inr (.inr (.inl ⟨by omega, rfl, h2, hidAt_less hk (by omega) h2⟩))
   ·exact .inr (.inr (.inr ⟨by omega, rfl, h2, hidAt_later hk (by omega) h h2⟩))

def tokOk (t : Tok) : Bool := oneTok t.text t.kind && hidOk t.hidden

end Go.Proofs.YtlegeancmcmbaaaDoor

/- Rows of structs, element by element: what turns while one element is written. Over any program. -/
namespace Go.Proofs.YtlegeancmcmbaaaDoor
open Go.RowKit

theorem alloc_below' (w : World) (o : Obj) : Below w.heap.size w (w.alloc o) := (Below.refl _ _).alloc (Nat.le_refl _) _
theorem elem_cell {w : World} {b off m i j : Nat} {es : List Value} {v : Value} (h : ElemAt w b off m i es) (hj : j < m) (hv : es[j]? = some v) : w.cell? ⟨b, off + i * m + j, none⟩ = some v := (h.2 j hj).trans hv
theorem elem_cell0 {w : World} {b off m i : Nat} {es : List Value} {v : Value} (h : ElemAt w b off m i es) (hj : 0 < m) (hv : es[0]? = some v) : w.cell? ⟨b, off + i * m, none⟩ = some v := (h.2 0 hj).trans hv

theorem blk_set {w : World} {g : Nat} {cs : Array Value} {t : TypeId} {fr : Nat × Nat} (h : w.heap[g]? = some (.cells cs t fr)) (j : Nat) (v : Value) : (w.setCell ⟨g, j, none⟩ v).heap[g]? = some (.cells (cs.setIfInBounds j v) t fr) := by
 simp [World.setCell, Array.getElem?_modify, h]
theorem blk_other {w : World} {g g' : Nat} {o : Obj} (h : w.heap[g]? = some o) (hn : g ≠ g') (j : Nat) (v : Value) : (w.setCell ⟨g', j, none⟩ v).heap[g]? = some o :=
 (Below.heap_setCell _ _ _ _ hn).trans h

theorem alloc3_blk (w : World) (c0 c1 c2 : Array Value) (t0 t1 t2 : TypeId) :
  (((w.alloc (.cells c0 t0)).alloc (.cells c1 t1)).alloc (.cells c2 t2)).heap[w.heap.size + 1]? = some (.cells c1 t1 (0, 0)) ∧
  (((w.alloc (.cells c0 t0)).alloc (.cells c1 t1)).alloc (.cells c2 t2)).heap[w.heap.size + 1 + 1]? = some (.cells c2 t2 (0, 0)) ∧
  (((w.alloc (.cells c0 t0)).alloc (.cells c1 t1)).alloc (.cells c2 t2)).heap.size = w.heap.size + 1 + 1 + 1 := by
 refine ⟨?_, ?_, ?_⟩
 ·show (((w.heap.push _).push _).push _)[_]? = _
  rw [Array.getElem?_push, if_neg (by simp), Array.getElem?_push, if_pos (by simp)]
 ·show (((w.heap.push _).push _).push _)[_]? = _
  rw [Array.getElem?_push, if_pos (by simp)]
 ·show (((w.heap.push _).push _).push _).size = _
  simp
theorem below3 (w : World) (c0 c1 c2 : Array Value) (t0 t1 t2 : TypeId) : Below w.heap.size w (((w.alloc (.cells c0 t0)).alloc (.cells c1 t1)).alloc (.cells c2 t2)) :=
 (((Below.refl _ _).alloc (Nat.le_refl _) _).alloc (by simp) _).alloc (by simp; omega) _

structure Turned (b lo hi : Nat) (fp : List Nat) (w w' : World) : Prop where
 kept : Kept (b :: fp) w w'
 cells : ∀ o, (o < lo ∨ hi ≤ o) → w'.cell? ⟨b, o, none⟩ = w.cell? ⟨b, o, none⟩
section
variable {b lo hi : Nat} {fp : List Nat} {w w1 w2 : World}
theorem Turned.refl (b lo hi : Nat) (fp : List Nat) (w : World) : Turned b lo hi fp w w := ⟨Kept.refl _ _, fun _ _ => rfl⟩
theorem Turned.set (h : Turned b lo hi fp w w1) {o : Nat} (h1 : lo ≤ o) (h2 : o < hi) (v : Value) : Turned b lo hi fp w (w1.setCell ⟨b, o, none⟩ v) :=
 ⟨h.kept.setCell (p := ⟨b, o, none⟩) (by simp) v, fun o' ho => by
  rw [World.cell?_setCell_other _ _ _ _ (by intro hh; simp only [Addr.mk.injEq] at hh; omega)]
  exact h.cells o' ho⟩
theorem Turned.below (h : Turned b lo hi fp w w1) (hb : b < w.heap.size) (hB : Below w1.heap.size w1 w2) : Turned b lo hi fp w w2 :=
 ⟨h.kept.trans (Kept.of_below hB), fun o ho => (hB.cell (p := ⟨b, o, none⟩) (Nat.lt_of_lt_of_le hb h.kept.size)).trans (h.cells o ho)⟩
theorem Turned.sub (h : Turned b lo hi fp w w1) (hb : b < w.heap.size) (hk : Kept fp w1 w2) (hn : b ∉ fp) : Turned b lo hi fp w w2 :=
 ⟨h.kept.trans (hk.mono fun x hx => by simp [hx]), fun o ho => (World.cell?_of_block (a := ⟨b, o, none⟩) (hk.block b (Nat.lt_of_lt_of_le hb h.kept.size) hn)).trans (h.cells o ho)⟩
theorem Turned.sub' {fp' : List Nat} (h : Turned b lo hi fp w w1) (hb : b < w.heap.size) (hk : Kept fp' w1 w2) (hs : ∀ x ∈ fp', x ∈ fp) (hn : b ∉ fp) : Turned b lo hi fp w w2 :=
 h.sub hb (hk.mono hs) hn
end

theorem nodup_flat {f : Nat → List Nat} : ∀ {ns : List Nat}, (ns.flatMap f).Nodup → (∀ i ∈ ns, (f i).Nodup) ∧ ns.Pairwise (fun i j => ∀ x ∈ f i, x ∉ f j)
 | [], _ => ⟨by simp, List.Pairwise.nil⟩
 |
  n :: ns, h => by
  rw [List.flatMap_cons] at h
  obtain ⟨h1, h2, h3⟩ := List.nodup_append.1 h
  obtain ⟨a, b⟩ := nodup_flat h2
  refine ⟨fun i hi => ?_, List.pairwise_cons.2 ⟨fun j hj x hx hx2 => h3 x hx x (List.mem_flatMap.2 ⟨j, hj, hx2⟩) rfl, b⟩⟩
  rcases List.mem_cons.1 hi with rfl | hi
  ·exact h1
  ·exact a i hi
theorem flat_apart {b n : Nat} {fps : Nat → List Nat} (h : (b :: (List.range n).flatMap fps).Nodup) {i : Nat} (hi : i < n) : b ∉ fps i ∧ ∀ j, j < n → j ≠ i → ∀ x ∈ fps j, x ∉ fps i := by
 obtain ⟨h1, h2⟩ := List.nodup_cons.1 h
 refine ⟨fun hx => h1 (List.mem_flatMap.2 ⟨i, by simpa using hi, hx⟩), fun j hj hne x hx hx2 => ?_⟩
 have hp := (nodup_flat h2).2
 rw [List.pairwise_iff_getElem] at hp
 rcases Nat.lt_or_gt_of_ne hne with hlt | hlt
 ·have := hp j i (by simpa using hj) (by simpa using hi) hlt
  simp only [List.getElem_range] at this
  exact this x hx hx2
 ·have := hp i j (by simpa using hi) (by simpa using hj) hlt
  simp only [List.getElem_range] at this
  exact this x hx2 hx

theorem row_turned {α : Type} {S : Shape α} {w w' : World} {b off n cap : Nat} {l : List α} {fps : Nat → List Nat} (hn : l.length = n) (hc : n ≤ cap) (hm : cap ≤ maxLen) (hb : b < w.heap.size)
  (he : ∀ i, (hi : i < l.length) → ∃ es, ElemAt w b off S.m i es ∧ S.R w es l[i] (fps i)) {i : Nat} (hin : i < n) {d : α} {es' : List Value}
  (hnd : (b :: (List.range n).flatMap fps).Nodup) (hT : Turned b (off + i * S.m) (off + i * S.m + S.m) (fps i) w w')
  (hi' : ElemAt w' b off S.m i es') (hR : S.R w' es' d (fps i)) :
  (sSlice S).R w' [.slice (some ⟨b, off, none⟩) n cap] (l.set i d) (b :: (List.range n).flatMap fps) := by
 have hap := flat_apart hnd hin
 refine row_upd (w := w) hn hc hm (by omega) he (Nat.lt_of_lt_of_le hb hT.kept.size) (fun j k hj hji hk => hT.cells _ ?_) (fun j hj hji x hx => hT.kept.block x ?_ ?_) hi' hR
 ·rcases Nat.lt_or_gt_of_ne hji with h | h
  ·left
   have : (j + 1) * S.m ≤ i * S.m := Nat.mul_le_mul_right _ h
   rw [Nat.succ_mul] at this; omega
  ·right
   have : (i + 1) * S.m ≤ j * S.m := Nat.mul_le_mul_right _ h
   rw [Nat.succ_mul] at this; omega
 ·obtain ⟨es, _, h2⟩ := he j (by omega)
  exact S.lt h2 x hx
 ·intro hx2
  rcases List.mem_cons.1 hx2 with rfl | hx2
  ·exact (flat_apart hnd hj).1 hx
  ·exact hap.2 j hj hji x hx hx2

theorem Own.part {w w' : World} {lo : Nat} {fp fp' : List Nat} (h : Own w lo fp) (hk : Kept fp' w w') (h' : Own w' lo fp') : Own w' lo fp :=
 ⟨h.1, fun b hb => by
  by_cases hx : b ∈ fp'
  ·exact h'.2 b hx
  ·obtain ⟨h1, cur, e, h2⟩ := h.2 b hb
   exact ⟨h1, cur, e, (hk.block b (Array.getElem?_eq_some_iff.1 h2).1 hx).trans h2⟩⟩
theorem Own.lower {w : World} {lo lo' : Nat} {fp : List Nat} (h : Own w lo fp) (hl : lo' ≤ lo) : Own w lo' fp := ⟨h.1, fun b hb => ⟨Nat.le_trans hl (h.2 b hb).1, (h.2 b hb).2⟩⟩
theorem Own.sub {w : World} {lo : Nat} {fp fp' : List Nat} (h : Own w lo fp) (hn : fp'.Nodup) (hs : ∀ x ∈ fp', x ∈ fp) : Own w lo fp' := ⟨hn, fun b hb => h.2 b (hs b hb)⟩
theorem flat_sub {b n : Nat} {fps : Nat → List Nat} {i : Nat} (hi : i < n) : ∀ x ∈ fps i, x ∈ (b :: (List.range n).flatMap fps) := fun x hx => by
 simp only [List.mem_cons, List.mem_flatMap, List.mem_range]; exact .inr ⟨i, hi, hx⟩
theorem flat_nodup {b n : Nat} {fps : Nat → List Nat} (h : (b :: (List.range n).flatMap fps).Nodup) {i : Nat} (hi : i < n) : (fps i).Nodup := by
 have h2 := (List.nodup_cons.1 h).2
 exact (nodup_flat h2).1 i (by simpa using hi)
theorem Turned.keptAll {b lo hi n : Nat} {fps : Nat → List Nat} {w w' : World} {i : Nat} (h : Turned b lo hi (fps i) w w') (hi' : i < n) : Kept (b :: (List.range n).flatMap fps) w w' :=
 h.kept.mono fun x hx => by
  rcases List.mem_cons.1 hx with rfl | hx
  ·simp
  ·exact flat_sub hi' x hx
theorem ElemAt.set {w : World} {b off m i : Nat} {es : List Value} (h : ElemAt w b off m i es) {j : Nat} (hj : j < m) (v : Value) : ElemAt (w.setCell ⟨b, off + i * m + j, none⟩ v) b off m i (es.set j v) := by
 refine ⟨by simpa using h.1, fun x hx => ?_⟩
 by_cases e : x = j
 ·subst e
  rw [List.getElem?_set_self (by have := h.1; omega)]
  obtain ⟨u, hu⟩ : ∃ u, w.cell? ⟨b, off + i * m + x, none⟩ = some u := ⟨es[x]'(by have := h.1; omega), by rw [h.2 x hx, List.getElem?_eq_getElem]⟩
  exact World.cell?_setCell_same _ _ _ hu
 ·rw [List.getElem?_set_ne (fun h => e h.symm), World.cell?_setCell_other _ _ _ _ (by intro hh; simp only [Addr.mk.injEq] at hh; omega)]
  exact h.2 x hx
structure Wr (b off m j lo : Nat) (fpj fpA : List Nat) (wr W : World) (es : List Value) : Prop where
 t : Turned b (off + j * m) (off + j * m + m) fpj wr W
 e : ElemAt W b off m j es
 o : Own W lo fpA
 hb : b < wr.heap.size
 hA : b ∈ fpA
 hN : b ∉ fpj
section
variable {b off m j lo : Nat} {fpj fpA : List Nat} {wr W W' : World} {es : List Value}
theorem Wr.start (e : ElemAt wr b off m j es) (o : Own wr lo fpA) (hb : b < wr.heap.size) (hA : b ∈ fpA) (hN : b ∉ fpj) : Wr b off m j lo fpj fpA wr wr es := ⟨Turned.refl _ _ _ _ _, e, o, hb, hA, hN⟩
theorem Wr.set (h : Wr b off m j lo fpj fpA wr W es) (i : Nat) (hi : i < m) (v : Value) : Wr b off m j lo fpj fpA wr (W.setCell ⟨b, off + j * m + i, none⟩ v) (es.set i v) :=
 ⟨h.t.set (by omega) (by omega) v, h.e.set hi v, h.o.setCell _ _, h.hb, h.hA, h.hN⟩
theorem Wr.set0 (h : Wr b off m j lo fpj fpA wr W es) (hi : 0 < m) (v : Value) : Wr b off m j lo fpj fpA wr (W.setCell ⟨b, off + j * m, none⟩ v) (es.set 0 v) := h.set 0 hi v
theorem Wr.below (h : Wr b off m j lo fpj fpA wr W es) (hB : Below W.heap.size W W') : Wr b off m j lo fpj fpA wr W' es :=
 ⟨h.t.below h.hb hB, h.e.frame (hB.block b (Nat.lt_of_lt_of_le h.hb h.t.kept.size)), h.o.grow hB, h.hb, h.hA, h.hN⟩
theorem Wr.sub {fp' : List Nat} (h : Wr b off m j lo fpj fpA wr W es) (hk : Kept fp' W W') (ho : Own W' lo fp') (hs : ∀ x ∈ fp', x ∈ fpj) : Wr b off m j lo fpj fpA wr W' es :=
 ⟨h.t.sub' h.hb hk hs h.hN, h.e.frame (hk.block b (Nat.lt_of_lt_of_le h.hb h.t.kept.size) fun hx => h.hN (hs b hx)), h.o.part hk ho, h.hb, h.hA, h.hN⟩
theorem Wr.cell (h : Wr b off m j lo fpj fpA wr W es) (i : Nat) {v : Value} (hi : i < m) (hv : es[i]? = some v) : W.cell? ⟨b, off + j * m + i, none⟩ = some v := elem_cell h.e hi hv
theorem Wr.cell0 (h : Wr b off m j lo fpj fpA wr W es) {v : Value} (hi : 0 < m) (hv : es[0]? = some v) : W.cell? ⟨b, off + j * m, none⟩ = some v := elem_cell0 h.e hi hv
theorem Wr.frozen (h : Wr b off m j lo fpj fpA wr W es) (o : Nat) : W.frozen? ⟨b, o, none⟩ = false := h.o.frozen h.hA o
theorem Shape.setB {α : Type} (S : Shape α) {cs : List Value} {d : α} {fp : List Nat} {b : Nat} (h : S.R W cs d fp) (hn : b ∉ fp) (o : Nat) (v : Value) : S.R (W.setCell ⟨b, o, none⟩ v) cs d fp :=
 S.kept (fp := [b]) h (fun x hx he => by rw [List.mem_singleton] at he; exact hn (he ▸ hx)) ((Kept.refl _ _).setCell (p := ⟨b, o, none⟩) (by simp) v)
end

def mkAll {α : Type} (f : Int → α → α) (c : α → Nat) : Int → List α → List α
 | _, [] => []
 | k, x :: l => f k x :: mkAll f c (k + c x) l
def cntAll {α : Type} (c : α → Nat) (l : List α) : Nat := (l.map c).sum
section
variable {α : Type} {f : Int → α → α} {c : α → Nat}
theorem mkAll_len : ∀ (k : Int) (l : List α), (mkAll f c k l).length = l.length
 | _, [] => rfl
 | k, x :: l => by simp [mkAll, mkAll_len (k + c x) l]
theorem cntAll_take {l : List α} {j : Nat} (h : j < l.length) : cntAll c (l.take (j + 1)) = cntAll c (l.take j) + c l[j] := by
 unfold cntAll
 rw [List.take_succ_eq_append_getElem h, List.map_append, List.sum_append]; simp
theorem cntAll_le (l : List α) (j : Nat) : cntAll c (l.take j) ≤ cntAll c l := by
 have := congrArg (cntAll c) (List.take_append_drop j l)
 unfold cntAll at *
 rw [List.map_append, List.sum_append] at this
 omega
theorem mkAll_get : ∀ {l : List α} (k : Int) (j : Nat) (h : j < l.length), (mkAll f c k l)[j]'(by rw [mkAll_len]; exact h) = f (k + cntAll c (l.take j)) l[j]
 | [], _, _, h => by simp at h
 | x :: l, k, 0, _ => by simp [mkAll, cntAll]
 |
  x :: l, k, j + 1, h => by
  have ih := mkAll_get (l := l) (k + c x) j (by simpa using h)
  have e : k + (c x : Int) + (cntAll c (l.take j) : Int) = k + (cntAll c ((x :: l).take (j + 1)) : Int) := by
   simp only [cntAll, List.take_succ_cons, List.map_cons, List.sum_cons]; omega
  rw [e] at ih
  exact ih
def MkUpto (f : Int → α → α) (c : α → Nat) (k : Int) (l : List α) (j : Nat) (L : List α) : Prop :=
 L.length = l.length ∧ ∀ i, (h : i < L.length) → (h' : i < l.length) → L[i] = if i < j then f (k + cntAll c (l.take i)) l[i] else l[i]
theorem MkUpto.zero (k : Int) (l : List α) : MkUpto f c k l 0 l := ⟨rfl, fun i h h' => by rw [if_neg (by omega)]⟩
theorem MkUpto.len {k : Int} {l L : List α} {j : Nat} (h : MkUpto f c k l j L) : L.length = l.length := h.1
theorem MkUpto.at {k : Int} {l L : List α} {j : Nat} (h : MkUpto f c k l j L) (hj : j < l.length) : L[j]'(by rw [h.1]; exact hj) = l[j] := by
 rw [h.2 j (by rw [h.1]; exact hj) hj, if_neg (by omega)]
theorem MkUpto.succ {k : Int} {l L : List α} {j : Nat} (h : MkUpto f c k l j L) (hj : j < l.length) : MkUpto f c k l (j + 1) (L.set j (f (k + cntAll c (l.take j)) l[j])) := by
 refine ⟨by rw [List.length_set]; exact h.1, fun i h1 h2 => ?_⟩
 by_cases e : i = j
 ·subst e; rw [List.getElem_set_self, if_pos (by omega)]
 ·rw [List.getElem_set_ne (fun h => e h.symm), h.2 i (by simpa using h1) h2]
  by_cases hlt : i < j
  ·rw [if_pos hlt, if_pos (by omega)]
  ·rw [if_neg hlt, if_neg (by omega)]
theorem MkUpto.done {k : Int} {l L : List α} {j : Nat} (h : MkUpto f c k l j L) (hj : l.length ≤ j) : L = mkAll f c k l := by
 refine List.ext_getElem (by rw [mkAll_len, h.1]) fun i h1 h2 => ?_
 have hl : i < l.length := by rw [← h.1]; exact h1
 rw [h.2 i h1 hl, if_pos (by omega), mkAll_get k i hl]
end

end Go.Proofs.YtlegeancmcmbaaaDoor

/- TokenValid of the program. -/
namespace Go.Proofs.YtlegeancmcmbaaaDoor
open Go.RowKit

theorem open_one {w : World} {v : Value} {t : Tok} {fp : List Nat} (H : (sSlice sTok).R w [v] [t] fp) :
  ∃ b off cap h, v = .slice (some ⟨b, off, none⟩) 1 cap ∧ cap ≤ maxLen ∧ 1 ≤ cap ∧ b < w.heap.size ∧ w.cell? ⟨b, off, none⟩ = some (.int .i64 t.kind) ∧ w.cell? ⟨b, off + 1, none⟩ = some (.string t.text) ∧ w.cell? ⟨b, off + 2, none⟩ = some (.bool t.spaced) ∧ w.cell? ⟨b, off + 3, none⟩ = some h ∧ okInt t.kind ∧ okStr t.text := by
 obtain ⟨a, cap, rfl, hc, hm, h⟩ := open_rows H
 obtain ⟨b, off, fps, rfl, hb, _, he⟩ := h (by simp)
 obtain ⟨es, ⟨h1, h2⟩, hh, h3, h4, h5, h6⟩ := he 0 (by simp)
 subst h3
 have g := fun j (hj : j < 4) => h2 j hj
 refine ⟨b, off, cap, hh, rfl, hm, by simpa using hc, hb, ?_, ?_, ?_, ?_, h4, h5⟩
 ·simpa using g 0 (by omega)
 ·simpa [Nat.add_assoc] using g 1 (by omega)
 ·simpa [Nat.add_assoc] using g 2 (by omega)
 ·simpa [Nat.add_assoc] using g 3 (by omega)

def Says (b : Bool) (w : World) (e : Ending) (w' : World) : Prop := e = .returned (.bool b) ∧ Below w.heap.size w w'

set_option maxHeartbeats 1000000 in
theorem impl_isOneToken (x : ByteArray) (k : Int) (w : World) (hs : x.size ≤ maxLen) :
  Calls Tryd.prog 88 #[.string x, .int .i64 k] w (Says (oneTok x k) w) := by
 have HT : Hid (∀ W, Calls Tryd.prog 35 #[.string x] W (TokMade (tokRes x) W)) := fun W => impl_TokensOf x W hs
 go_enter Tryd.func88, Tryd.ntmps88
 rcases one_ways x k with ⟨hr, HF⟩ | ⟨l, hr, hl, HF⟩ | ⟨t, hr, hk, HF⟩ | ⟨t, hr, hk, hx, HF⟩ | ⟨t, hr, hk, hx, _, HF⟩
 ·rw [hr] at HT
  clear hr
  go_wp2_with (go_at_call 35; refine (HT.out _).mono ?_; rintro e w' ⟨v, fp, rfl, hR, hO, hB⟩)
  go_ret
  exact ⟨ret_bool HF.out.symm, hB⟩
 ·rw [hr] at HT
  have hl' : ((l.length : Int) != 1) = true := by simp; omega
  clear hr hl
  go_wp2_with (go_at_call 35; refine (HT.out _).mono ?_; rintro e w' ⟨v, fp, rfl, hR, hO, hB⟩; obtain ⟨a, cap, rfl, _, _, _⟩ := open_rows hR)
  go_ret
  exact ⟨ret_bool HF.out.symm, hB⟩
 ·rw [hr] at HT
  have hk' : (t.kind == k) = false := by simp [hk]
  clear hr hk
  go_wp2_with (go_at_call 35; refine (HT.out _).mono ?_; rintro e w' ⟨v, fp, rfl, hR, hO, hB⟩; obtain ⟨b, off, cap, h, rfl, hc1, hc2, hb, h0, h1, h2, h3, _, _⟩ := open_one hR)
  go_ret
  exact ⟨ret_bool HF.out.symm, hB⟩
 ·rw [hr] at HT
  have hk' : (t.kind == k) = true := by simp [hk]
  have hx' : (t.text.toList == x.toList) = false := bytes_bne hx
  clear hr hk hx
  go_wp2_with (go_at_call 35; refine (HT.out _).mono ?_; rintro e w' ⟨v, fp, rfl, hR, hO, hB⟩; obtain ⟨b, off, cap, h, rfl, hc1, hc2, hb, h0, h1, h2, h3, _, _⟩ := open_one hR)
  go_ret
  exact ⟨ret_bool HF.out.symm, hB⟩
 ·rw [hr] at HT
  have hk' : (t.kind == k) = true := by simp [hk]
  have hx' : (t.text.toList == x.toList) = true := bytes_beq hx
  clear hr hk hx
  go_wp2_with (go_at_call 35; refine (HT.out _).mono ?_; rintro e w' ⟨v, fp, rfl, hR, hO, hB⟩; obtain ⟨b, off, cap, h, rfl, hc1, hc2, hb, h0, h1, h2, h3, _, _⟩ := open_one hR)
  go_ret
  exact ⟨ret_bool HF.out.symm, hB⟩

set_option maxHeartbeats 2000000 in
theorem impl_hiddenValid (v : Value) (l : List ByteArray) (fp : List Nat) (w : World) (H : (sSlice sStr).R w [v] l fp) :
  Calls Tryd.prog 89 #[v] w (Says (hidOk l) w) := by
 obtain ⟨a, cap, rfl, hc, hm, hcell, hsz⟩ := open_strs H
 unfold maxLen at hm
 by_cases hl : 60 < l.length
 ·have HF := Lib.hid (hidOk_long hl)
  go_enter Tryd.func89, Tryd.ntmps89
  go_wp2
  go_ret
  exact ⟨ret_bool HF.out.symm, Below.refl _ _⟩
 ·go_enter Tryd.func89, Tryd.ntmps89
  go_wp2
  go_loopw [10] (fun i wr => ∃ k : Nat, k ≤ l.length ∧ i = .int .i64 k ∧ HidUpto l k ∧ Below w.heap.size w wr) (fun i _ => l.length - (intOf i).toNat)
  case atStart => exact ⟨0, by omega, rfl, HidUpto.zero _, Below.refl _ _⟩
  case round =>
   obtain ⟨k, hk, rfl, hall, hbel⟩ := hrel
   by_cases hlt : k < l.length
   ·obtain ⟨b, off, rfl, hb, _, hc2⟩ := hcell (by omega)
    have hck := (hbel.cell (p := ⟨b, off + k, none⟩) hb).trans (hc2 k hlt)
    have hsk := hsz k hlt
    have hbr : b < wr.heap.size := Nat.lt_of_lt_of_le hb hbel.size
    have HC : Hid (∀ W, Calls Tryd.prog 88 #[.string l[k], .int .i64 1] W (Says (oneTok l[k] 1) W)) := fun W => impl_isOneToken l[k] 1 W hsk
    rcases hid_ways hlt with ⟨h1, HF⟩ | ⟨h1, h0, HN⟩ | ⟨hp, h1, h2, HF⟩ | ⟨hp, h1, h2, HN⟩
    ·rw [h1] at HC
     have HG := Lib.hid (hidOk_no hlt HF.out)
     clear h1 hc2 hall
     go_wp2_with (go_at_call 88; refine (HC.out _).mono ?_; rintro e w1 ⟨rfl, hb1⟩)
     go_ret
     exact ⟨ret_bool HG.out.symm, hbel.trans (hb1.mono hbel.size)⟩
    ·rw [h1] at HC
     have HG := Lib.hid (hall.succ HN.out)
     have h0' : ¬ (0 : Int) < (k : Int) := by omega
     clear h1 h0 hc2 hall
     go_wp2_with (go_at_call 88; refine (HC.out _).mono ?_; rintro e w1 ⟨rfl, hb1⟩)
     go_roundw
     case rel => exact ⟨k + 1, by omega, by go_num, HG.out, hbel.trans (hb1.mono hbel.size)⟩
     case measure => simp [intOf]; omega
    ·rw [h1] at HC
     have HG := Lib.hid (hidOk_no hlt HF.out)
     have hcp := (hbel.cell (p := ⟨b, off + (k - 1), none⟩) hb).trans (hc2 (k - 1) (by omega))
     have h6 : ((k : Int) - 1).toNat = k - 1 := by omega
     have h0' : (0 : Int) < (k : Int) := by omega
     have h2' : Op.bytesLess (l[k - 1]'(by omega)).toList l[k].toList = false := h2
     clear h1 h2 hc2 hall
     go_wp2_with (go_at_call 88; refine (HC.out _).mono ?_; rintro e w1 ⟨rfl, hb1⟩; have hcp1 := (hb1.cell (p := ⟨b, off + (k - 1), none⟩) hbr).trans hcp)
     go_ret
     exact ⟨ret_bool HG.out.symm, hbel.trans (hb1.mono hbel.size)⟩
    ·rw [h1] at HC
     have HG := Lib.hid (hall.succ HN.out)
     have hcp := (hbel.cell (p := ⟨b, off + (k - 1), none⟩) hb).trans (hc2 (k - 1) (by omega))
     have h6 : ((k : Int) - 1).toNat = k - 1 := by omega
     have h0' : (0 : Int) < (k : Int) := by omega
     have h2' : Op.bytesLess (l[k - 1]'(by omega)).toList l[k].toList = true := h2
     clear h1 h2 hc2 hall
     go_wp2_with (go_at_call 88; refine (HC.out _).mono ?_; rintro e w1 ⟨rfl, hb1⟩; have hcp1 := (hb1.cell (p := ⟨b, off + (k - 1), none⟩) hbr).trans hcp)
     go_roundw
     case rel => exact ⟨k + 1, by omega, by go_num, HG.out, hbel.trans (hb1.mono hbel.size)⟩
     case measure => simp [intOf]; omega
   ·have HG := Lib.hid (hidOk_yes hall (by omega) (by omega))
    clear hall
    go_wp2
    go_ret
    exact ⟨ret_bool HG.out.symm, hbel⟩

set_option maxHeartbeats 1000000 in
theorem impl_TokenValid_a (t : Tok) (h : Value) (fp : List Nat) (w : World) (ht : okStr t.text) (H : (sSlice sStr).R w [h] t.hidden fp) :
  Calls Tryd.prog 68 #[.agg #[.int .i64 t.kind, .string t.text, .bool t.spaced, h]] w (Says (tokOk t) w) := by
 have HF : Hid (tokOk t = (oneTok t.text t.kind && hidOk t.hidden)) := rfl
 have HC : Hid (∀ W, Calls Tryd.prog 88 #[.string t.text, .int .i64 t.kind] W (Says (oneTok t.text t.kind) W)) := fun W => impl_isOneToken t.text t.kind W ht
 have HD : Hid (∀ W, Below w.heap.size w W → Calls Tryd.prog 89 #[h] W (Says (hidOk t.hidden) W)) := fun W hb => impl_hiddenValid h t.hidden fp W ((sSlice sStr).below H hb)
 go_enter Tryd.func68, Tryd.ntmps68
 have hb0 := alloc_below' w (.cells #[.int .i64 t.kind, .string t.text, .bool t.spaced, h] 47)
 cases h1 : oneTok t.text t.kind
 ·rw [h1] at HC HF
  clear h1
  go_wp2_with (go_at_call 88; refine (HC.out _).mono ?_; rintro e w1 ⟨rfl, hb1⟩)
  go_ret
  exact ⟨ret_bool (by rw [HF.out]; rfl), hb0.trans (hb1.mono hb0.size)⟩
 ·rw [h1] at HC HF
  clear h1
  go_wp2_with (first
   | (go_at_call 88; refine (HC.out _).mono ?_; rintro e w1 ⟨rfl, hb1⟩; have hcd := (hb1.cell (p := ⟨w.heap.size, 3, none⟩) (by simp)))
   | (go_at_call 89; refine (HD.out _ (hb0.trans (hb1.mono hb0.size))).mono ?_; rintro e w2 ⟨rfl, hb2⟩))
  go_ret
  exact ⟨ret_bool (by rw [HF.out]; rfl), hb0.trans ((hb1.trans (hb2.mono hb1.size)).mono hb0.size)⟩

theorem impl_TokenValid (cs : List Value) (x : Tok) (fp : List Nat) (w : World) (H : sTok.R w cs x fp) : Calls Tryd.prog 68 #[.agg cs.toArray] w (Says (tokOk x) w) := by
 obtain ⟨h, rfl, _, hok, K⟩ := H
 exact impl_TokenValid_a x h fp w hok K

end Go.Proofs.YtlegeancmcmbaaaDoor

/- TokenValid of the model. -/
namespace Go.Proofs.YtlegeancmcmbaaaDoor
open Go.RowKit

theorem tokOk_a {t : Tok} (h : oneTok t.text t.kind = false) : tokOk t = false := by unfold tokOk; rw [h]; rfl
theorem tokOk_b {t : Tok} (h : hidOk t.hidden = false) : tokOk t = false := by unfold tokOk; rw [h, Bool.and_false]
theorem tokOk_c {t : Tok} (h : oneTok t.text t.kind = true) (h' : hidOk t.hidden = true) : tokOk t = true := by unfold tokOk; rw [h, h']; rfl

section
variable {w w1 : World} {ty : TypeId} {v0 v1 v2 v3 : Value}
theorem box0 (hB : Below (w.alloc (.cells #[v0, v1, v2, v3] ty)).heap.size (w.alloc (.cells #[v0, v1, v2, v3] ty)) w1) : w1.cell? ⟨w.heap.size, 0, none⟩ = some v0 := (hB.cell (by simp)).trans (by rw [World.cell?_alloc_at _ _ _ _ rfl]; rfl)
theorem box1 (hB : Below (w.alloc (.cells #[v0, v1, v2, v3] ty)).heap.size (w.alloc (.cells #[v0, v1, v2, v3] ty)) w1) : w1.cell? ⟨w.heap.size, 1, none⟩ = some v1 := (hB.cell (by simp)).trans (by rw [World.cell?_alloc_at _ _ _ _ rfl]; rfl)
theorem box3 (hB : Below (w.alloc (.cells #[v0, v1, v2, v3] ty)).heap.size (w.alloc (.cells #[v0, v1, v2, v3] ty)) w1) : w1.cell? ⟨w.heap.size, 3, none⟩ = some v3 := (hB.cell (by simp)).trans (by rw [World.cell?_alloc_at _ _ _ _ rfl]; rfl)
end

set_option maxHeartbeats 4000000 in
theorem spec_TokenValid_no (t : Tok) (h : Value) (fp : List Nat) (w : World) (ht : okStr t.text) (H : (sSlice sStr).R w [h] t.hidden fp) (hone : oneTok t.text t.kind = false) :
  Calls Tryd.prog 65 #[.agg #[.int .i64 t.kind, .string t.text, .bool t.spaced, h]] w (Says (tokOk t) w) := by
 have HT : Hid (∀ W, Calls Tryd.prog 37 #[.string t.text] W (TokMade (tokRes t.text) W)) := fun W => spec_TokensOf t.text W ht
 have HF := Lib.hid (tokOk_a hone)
 have hb0 := alloc_below' w (.cells #[.int .i64 t.kind, .string t.text, .bool t.spaced, h] 47)
 rcases one_ways t.text t.kind with ⟨hr, HG⟩ | ⟨l, hr, hl, HG⟩ | ⟨t', hr, hk, HG⟩ | ⟨t', hr, hk, hx, HG⟩ | ⟨t', hr, hk, hx, _, HG⟩
 ·rw [hr] at HT
  clear hr hone
  go_enter Tryd.func65, Tryd.ntmps65
  go_wp2_with (go_at_call 37; refine (HT.out _).mono ?_; rintro e w' ⟨v, fp, rfl, hR, hO, hB⟩)
  go_quiet (fail)
  go_wp2
  go_ret
  exact ⟨ret_bool HF.out.symm, belowN (hb0.trans (hB.mono hb0.size)) _⟩
 ·rw [hr] at HT
  have hl' : ((l.length : Int) != 1) = true := by simp; omega
  clear hr hone hl
  go_enter Tryd.func65, Tryd.ntmps65
  go_wp2_with (go_at_call 37; refine (HT.out _).mono ?_; rintro e w' ⟨v, fp, rfl, hR, hO, hB⟩; obtain ⟨a, cap, rfl, _, _, _⟩ := open_rows hR)
  go_quiet (fail)
  go_wp2
  go_ret
  exact ⟨ret_bool HF.out.symm, belowN (hb0.trans (hB.mono hb0.size)) _⟩
 ·rw [hr] at HT
  have hk' : (t'.kind != t.kind) = true := by simp [hk]
  clear hr hone hk
  go_enter Tryd.func65, Tryd.ntmps65
  go_wp2_with (go_at_call 37; refine (HT.out _).mono ?_; rintro e w' ⟨v, fp, rfl, hR, hO, hB⟩; obtain ⟨b, off, cap, h', rfl, hc1, hc2, hb, h0, h1, h2, h3, _, _⟩ := open_one hR; have a0 := box0 hB)
  go_quiet (fail)
  go_wp2
  go_ret
  exact ⟨ret_bool HF.out.symm, belowN (hb0.trans (hB.mono hb0.size)) _⟩
 ·rw [hr] at HT
  have hk' : (t'.kind != t.kind) = false := by simp [hk]
  have hx' : (t'.text.toList == t.text.toList) = false := bytes_bne hx
  clear hr hone hk hx
  go_enter Tryd.func65, Tryd.ntmps65
  go_wp2_with (go_at_call 37; refine (HT.out _).mono ?_; rintro e w' ⟨v, fp, rfl, hR, hO, hB⟩; obtain ⟨b, off, cap, h', rfl, hc1, hc2, hb, h0, h1, h2, h3, _, _⟩ := open_one hR; have a0 := box0 hB; have a1 := box1 hB)
  go_quiet (fail)
  go_wp2
  go_ret
  exact ⟨ret_bool HF.out.symm, belowN (hb0.trans (hB.mono hb0.size)) _⟩
 ·exact absurd (HG.out.symm.trans hone) (by simp)

theorem sLess_ways {a b : ByteArray} : (sLess a b = true ∧ Op.bytesLess b.toList a.toList = false ∧ (b.toList == a.toList) = false) ∨ (sLess a b = false ∧ Op.bytesLess b.toList a.toList = true) ∨ (sLess a b = false ∧ Op.bytesLess b.toList a.toList = false ∧ (b.toList == a.toList) = true) := by
 cases h : sLess a b
 ·have := sLess_no h
  cases h1 : Op.bytesLess b.toList a.toList
  ·rw [h1, Bool.false_or] at this; exact .inr (.inr ⟨rfl, rfl, this⟩)
  ·exact .inr (.inl ⟨rfl, rfl⟩)
 ·have := sLess_yes h
  rw [Bool.or_eq_false_iff] at this
  exact .inl ⟨rfl, this.1, this.2⟩

set_option maxHeartbeats 8000000 in
set_option maxRecDepth 100000 in
theorem spec_TokenValid_yes (t : Tok) (h : Value) (fp : List Nat) (w : World) (ht : okStr t.text) (H : (sSlice sStr).R w [h] t.hidden fp) (hone : oneTok t.text t.kind = true) :
  Calls Tryd.prog 65 #[.agg #[.int .i64 t.kind, .string t.text, .bool t.spaced, h]] w (Says (tokOk t) w) := by
 have HT : Hid (∀ W, Calls Tryd.prog 37 #[.string t.text] W (TokMade (tokRes t.text) W)) := fun W => spec_TokensOf t.text W ht
 have HO := Lib.hid hone
 have hb0 := alloc_below' w (.cells #[.int .i64 t.kind, .string t.text, .bool t.spaced, h] 47)
 obtain ⟨ah, caph, rfl, hch, hmh, hcell, hsz⟩ := open_strs H
 unfold maxLen at hmh
 rcases one_ways t.text t.kind with ⟨hr, HG⟩ | ⟨l, hr, hl, HG⟩ | ⟨t', hr, hk, HG⟩ | ⟨t', hr, hk, hx, HG⟩ | ⟨t', hr, hk, hx, hsp, HG⟩
 ·exact absurd (HG.out.symm.trans hone) (by simp)
 ·exact absurd (HG.out.symm.trans hone) (by simp)
 ·exact absurd (HG.out.symm.trans hone) (by simp)
 ·exact absurd (HG.out.symm.trans hone) (by simp)
 rw [hr] at HT
 have hk' : (t'.kind != t.kind) = false := by simp [hk]
 have hx' : (t'.text.toList == t.text.toList) = true := bytes_beq hx
 clear hr hone hk hx HG
 by_cases hl : 60 < t.hidden.length
 ·have HF := Lib.hid (tokOk_b (t := t) (hidOk_long hl))
  go_enter Tryd.func65, Tryd.ntmps65
  go_wp2_with (go_at_call 37; refine (HT.out _).mono ?_; rintro e w' ⟨v, fp, rfl, hR, hO, hB⟩; obtain ⟨b, off, cap, h', rfl, hc1, hc2, hb, h0, h1, h2, h3, _, _⟩ := open_one hR; have a0 := box0 hB; have a1 := box1 hB; have a3 := box3 hB; rw [hsp] at h2)
  go_quiet (fail)
  go_wp2
  go_ret
  exact ⟨ret_bool HF.out.symm, belowN (hb0.trans (hB.mono hb0.size)) _⟩
 ·have hl' : ¬ (60 : Int) < (t.hidden.length : Int) := by omega
  have hl2 : decide ((60 : Int) < (t.hidden.length : Int)) = false := by simpa using hl'
  go_enter Tryd.func65, Tryd.ntmps65
  go_wp2_with (go_at_call 37; refine (HT.out _).mono ?_; rintro e w' ⟨v, fp, rfl, hR, hO, hB⟩; obtain ⟨b, off, cap, h', rfl, hc1, hc2, hb, h0, h1, h2, h3, _, _⟩ := open_one hR; have a0 := box0 hB; have a1 := box1 hB; have a3 := box3 hB; rw [hsp] at h2)
  go_quiet (fail)
  go_wp2
  have hB' := belowN hB nq
  clear a0 a1 a3 h0 h1 h2 h3 hR hO hc1 hc2 hb hB
  go_loopw [5] (fun i wr => ∃ k : Nat, k ≤ t.hidden.length ∧ i = .int .i64 k ∧ HidUpto t.hidden k ∧ Below (w.alloc (.cells #[.int .i64 t.kind, .string t.text, .bool t.spaced, .slice ah t.hidden.length caph] 47)).heap.size (w.alloc (.cells #[.int .i64 t.kind, .string t.text, .bool t.spaced, .slice ah t.hidden.length caph] 47)) wr) (fun i _ => t.hidden.length - (intOf i).toNat)
  case atStart => exact ⟨0, by omega, rfl, HidUpto.zero _, hB'⟩
  case round =>
   obtain ⟨k, hk, rfl, hall, hbel⟩ := hrel
   have hbw := hb0.trans (hbel.mono hb0.size)
   have hsl : (w.alloc (.cells #[.int .i64 t.kind, .string t.text, .bool t.spaced, .slice ah t.hidden.length caph] 47)).heap.size = w.heap.size + 1 := Array.size_push _
   have hwr : w.heap.size < wr.heap.size := by have := hbel.size; omega
   have a3 := box3 hbel
   by_cases hlt : k < t.hidden.length
   ·obtain ⟨b, off, rfl, hb, _, hc2⟩ := hcell (by omega)
    have hck := (hbw.cell (p := ⟨b, off + k, none⟩) hb).trans (hc2 k hlt)
    have hbr : b < wr.heap.size := Nat.lt_of_lt_of_le hb hbw.size
    have hsk := hsz k hlt
    have HT : Hid (∀ W, Calls Tryd.prog 37 #[.string t.hidden[k]] W (TokMade (tokRes t.hidden[k]) W)) := fun W => spec_TokensOf t.hidden[k] W hsk
    rcases one_ways t.hidden[k] 1 with ⟨hr, HG⟩ | ⟨l, hr, hl, HG⟩ | ⟨t', hr, hk, HG⟩ | ⟨t', hr, hk, hx, HG⟩ | ⟨t', hr, hk, hx, _, HG⟩
    ·rw [hr] at HT
     have HF := Lib.hid (tokOk_b (t := t) (hidOk_no hlt (hidAt_name hlt HG.out)))
     clear hr HG hc2 hall hcell
     go_wp2_with (go_at_call 37; refine (HT.out _).mono ?_; rintro e w' ⟨v, fp, rfl, hR, hO, hB2⟩; have a3' := (hB2.cell (p := ⟨w.heap.size, 3, none⟩) hwr).trans a3; have hck' := (hB2.cell (p := ⟨b, off + k, none⟩) hbr).trans hck)
     go_quiet (fail)
     go_wp2
     go_ret
     exact ⟨ret_bool HF.out.symm, belowN (hbw.trans (hB2.mono hbw.size)) _⟩
    ·rw [hr] at HT
     have HF := Lib.hid (tokOk_b (t := t) (hidOk_no hlt (hidAt_name hlt HG.out)))
     have hl'' : ((l.length : Int) != 1) = true := by simp; omega
     clear hr HG hc2 hall hcell
     go_wp2_with (go_at_call 37; refine (HT.out _).mono ?_; rintro e w' ⟨v, fp, rfl, hR, hO, hB2⟩; obtain ⟨a, cap, rfl, _, _, _⟩ := open_rows hR; have a3' := (hB2.cell (p := ⟨w.heap.size, 3, none⟩) hwr).trans a3; have hck' := (hB2.cell (p := ⟨b, off + k, none⟩) hbr).trans hck)
     go_quiet (fail)
     go_wp2
     go_ret
     exact ⟨ret_bool HF.out.symm, belowN (hbw.trans (hB2.mono hbw.size)) _⟩
    ·rw [hr] at HT
     have HF := Lib.hid (tokOk_b (t := t) (hidOk_no hlt (hidAt_name hlt HG.out)))
     have hk'' : (t'.kind != 1) = true := by simp [hk]
     clear hr HG hc2 hall hcell
     go_wp2_with (go_at_call 37; refine (HT.out _).mono ?_; rintro e w' ⟨v, fp, rfl, hR, hO, hB2⟩; obtain ⟨b1, off1, cap1, h1, rfl, hc11, hc21, hb1, g0, g1, g2, g3, _, _⟩ := open_one hR; have a3' := (hB2.cell (p := ⟨w.heap.size, 3, none⟩) hwr).trans a3; have hck' := (hB2.cell (p := ⟨b, off + k, none⟩) hbr).trans hck)
     go_quiet (fail)
     go_wp2
     go_ret
     exact ⟨ret_bool HF.out.symm, belowN (hbw.trans (hB2.mono hbw.size)) _⟩
    ·rw [hr] at HT
     have HF := Lib.hid (tokOk_b (t := t) (hidOk_no hlt (hidAt_name hlt HG.out)))
     have hk'' : (t'.kind != 1) = false := by simp [hk]
     have hx'' : (t'.text.toList == t.hidden[k].toList) = false := bytes_bne hx
     clear hr HG hc2 hall hcell
     go_wp2_with (go_at_call 37; refine (HT.out _).mono ?_; rintro e w' ⟨v, fp, rfl, hR, hO, hB2⟩; obtain ⟨b1, off1, cap1, h1, rfl, hc11, hc21, hb1, g0, g1, g2, g3, _, _⟩ := open_one hR; have a3' := (hB2.cell (p := ⟨w.heap.size, 3, none⟩) hwr).trans a3; have hck' := (hB2.cell (p := ⟨b, off + k, none⟩) hbr).trans hck)
     go_quiet (fail)
     go_wp2
     go_ret
     exact ⟨ret_bool HF.out.symm, belowN (hbw.trans (hB2.mono hbw.size)) _⟩
    ·rw [hr] at HT
     have hk'' : (t'.kind != 1) = false := by simp [hk]
     have hx'' : (t'.text.toList == t.hidden[k].toList) = true := bytes_beq hx
     by_cases h0 : k = 0
     ·have h0' : decide ((0 : Int) < (k : Int)) = false := by simp; omega
      have HN : Hid (HidUpto t.hidden (k + 1)) := by subst h0; exact hall.succ (hidAt_first hlt HG.out)
      have h00 : ¬ (0 : Int) < (k : Int) := by omega
      have h01 : decide (0 < k) = false := by simp; omega
      clear h0
      clear hr HG hc2 hall hcell
      go_wp2_with (go_at_call 37; refine (HT.out _).mono ?_; rintro e w' ⟨v, fp, rfl, hR, hO, hB2⟩; obtain ⟨b1, off1, cap1, h1, rfl, hc11, hc21, hb1, g0, g1, g2, g3, _, _⟩ := open_one hR; have a3' := (hB2.cell (p := ⟨w.heap.size, 3, none⟩) hwr).trans a3; have hck' := (hB2.cell (p := ⟨b, off + k, none⟩) hbr).trans hck)
      go_quiet (fail)
      go_wp2
      go_roundw
      case rel => exact ⟨k + 1, by omega, by go_num, HN.out, belowN (hbel.trans (hB2.mono hbel.size)) _⟩
      case measure => simp [intOf]; omega
     ·have hcp := (hbw.cell (p := ⟨b, off + (k - 1), none⟩) hb).trans (hc2 (k - 1) (by omega))
      have h6 : ((k : Int) - 1).toNat = k - 1 := by omega
      have h0' : (0 : Int) < (k : Int) := by omega
      have h0'' : decide ((0 : Int) < (k : Int)) = true := by simpa using h0'
      have h0n : decide (0 < k) = true := by simp; omega
      have hi1 : (0 : Int) ≤ (k : Int) - 1 := by omega
      have hi2 : (k : Int) - 1 < (t.hidden.length : Int) := by omega
      rcases sLess_ways (a := t.hidden[k - 1]'(by omega)) (b := t.hidden[k]) with ⟨hw, hw1, hw2⟩ | ⟨hw, hw1⟩ | ⟨hw, hw1, hw2⟩
      ·have HN := Lib.hid (hall.succ (hidAt_later hlt (by omega) HG.out hw))
       clear hr HG hc2 hall hcell hw
       go_wp2_with (go_at_call 37; refine (HT.out _).mono ?_; rintro e w' ⟨v, fp, rfl, hR, hO, hB2⟩; obtain ⟨b1, off1, cap1, h1, rfl, hc11, hc21, hb1, g0, g1, g2, g3, _, _⟩ := open_one hR; have a3' := (hB2.cell (p := ⟨w.heap.size, 3, none⟩) hwr).trans a3; have hck' := (hB2.cell (p := ⟨b, off + k, none⟩) hbr).trans hck; have hcp' := (hB2.cell (p := ⟨b, off + (k - 1), none⟩) hbr).trans hcp)
       go_quiet (fail)
       go_wp2
       go_roundw
       case rel => exact ⟨k + 1, by omega, by go_num, HN.out, belowN (hbel.trans (hB2.mono hbel.size)) _⟩
       case measure => simp [intOf]; omega
      all_goals
       have HF := Lib.hid (tokOk_b (t := t) (hidOk_no hlt (hidAt_less hlt (by omega) hw)))
       clear hr HG hc2 hall hcell hw
       go_wp2_with (go_at_call 37; refine (HT.out _).mono ?_; rintro e w' ⟨v, fp, rfl, hR, hO, hB2⟩; obtain ⟨b1, off1, cap1, h1, rfl, hc11, hc21, hb1, g0, g1, g2, g3, _, _⟩ := open_one hR; have a3' := (hB2.cell (p := ⟨w.heap.size, 3, none⟩) hwr).trans a3; have hck' := (hB2.cell (p := ⟨b, off + k, none⟩) hbr).trans hck; have hcp' := (hB2.cell (p := ⟨b, off + (k - 1), none⟩) hbr).trans hcp)
       go_quiet (fail)
       go_wp2
       go_ret
       exact ⟨ret_bool HF.out.symm, belowN (hbw.trans (hB2.mono hbw.size)) _⟩
   ·have HF := Lib.hid (tokOk_c HO.out (hidOk_yes hall (by omega) (by omega)))
    clear hall
    go_wp2
    go_ret
    exact ⟨ret_bool HF.out.symm, hbw⟩

theorem spec_TokenValid_a (t : Tok) (h : Value) (fp : List Nat) (w : World) (ht : okStr t.text) (H : (sSlice sStr).R w [h] t.hidden fp) :
  Calls Tryd.prog 65 #[.agg #[.int .i64 t.kind, .string t.text, .bool t.spaced, h]] w (Says (tokOk t) w) := by
 cases ho : oneTok t.text t.kind
 ·exact spec_TokenValid_no t h fp w ht H ho
 ·exact spec_TokenValid_yes t h fp w ht H ho

theorem spec_TokenValid (cs : List Value) (x : Tok) (fp : List Nat) (w : World) (H : sTok.R w cs x fp) : Calls Tryd.prog 65 #[.agg cs.toArray] w (Says (tokOk x) w) := by
 obtain ⟨h, rfl, _, hok, K⟩ := H
 exact spec_TokenValid_a x h fp w hok K

end Go.Proofs.YtlegeancmcmbaaaDoor

/- SameTexts and TokensValid of both. -/
namespace Go.Proofs.YtlegeancmcmbaaaDoor
open Go.RowKit
def toksOk (l : List Tok) : Bool := decide (l.length ≤ 60) && l.all tokOk

set_option maxHeartbeats 4000000 in
set_option maxRecDepth 100000 in
theorem spec_TokensValid (v : Value) (l : List Tok) (fp : List Nat) (w : World) (H : (sSlice sTok).R w [v] l fp) :
  Calls Tryd.prog 40 #[v] w (Says (toksOk l) w) := by
 obtain ⟨a, cap, rfl, hc, hm, hrow⟩ := open_rows H
 unfold maxLen at hm
 clear H
 go_enter Tryd.func40, Tryd.ntmps40
 go_wp2
 go_loopw [3] (fun i wr => ∃ k : Nat, k ≤ l.length ∧ i = .int .i64 k ∧ AllUpto tokOk l k ∧ Below w.heap.size w wr) (fun i _ => l.length - (intOf i).toNat)
 case atStart => exact ⟨0, by omega, rfl, AllUpto.zero _ _, Below.refl _ _⟩
 case round =>
  obtain ⟨k, hk, rfl, hall, hb⟩ := hrel
  by_cases hlt : k < l.length
  ·obtain ⟨b1, off1, fps1, rfl, hb1, -, he1⟩ := hrow (by omega)
   obtain ⟨es1, hE1, hR1⟩ := he1 k hlt
   clear hrow he1
   have hR2 := sTok.below hR1 hb
   obtain ⟨h1, rfl, _, _, _⟩ := hR1
   have HC := Lib.hid (spec_TokenValid _ _ _ wr hR2)
   clear hR2
   replace hE1 := hE1.frame (hb.block b1 hb1)
   have c10 : wr.cell? ⟨b1, off1 + k * 4, none⟩ = some _ := elem_cell0 hE1 (by decide) rfl
   have c11 : wr.cell? ⟨b1, off1 + k * 4 + 1, none⟩ = some _ := elem_cell (j := 1) hE1 (by decide) rfl
   have c12 : wr.cell? ⟨b1, off1 + k * 4 + 2, none⟩ = some _ := elem_cell (j := 2) hE1 (by decide) rfl
   have c13 : wr.cell? ⟨b1, off1 + k * 4 + 3, none⟩ = some _ := elem_cell (j := 3) hE1 (by decide) rfl
   clear hE1
   cases hv : tokOk l[k]
   ·have HF := Lib.hid (all_no (p := tokOk) hlt hv)
    rw [hv] at HC
    clear hv hall
    go_wp2_with (go_at_call 65; refine (HC.out).mono ?_; rintro e w1 ⟨rfl, hb2⟩)
    go_ret
    exact ⟨ret_bool (by unfold toksOk; rw [HF.out]; simp), hb.trans (hb2.mono hb.size)⟩
   ·have HN := Lib.hid (hall.succ hlt hv)
    rw [hv] at HC
    clear hv hall
    go_wp2_with (go_at_call 65; refine (HC.out).mono ?_; rintro e w1 ⟨rfl, hb2⟩)
    go_roundw
    case rel => exact ⟨k + 1, by omega, by go_num, HN.out, hb.trans (hb2.mono hb.size)⟩
    case measure => simp [intOf]; omega
  ·have HF := Lib.hid (all_yes (p := tokOk) hall (by omega))
   clear hall
   go_wp2
   go_ret
   exact ⟨ret_bool (by unfold toksOk; rw [HF.out, Bool.and_true]; exact decide_eq_decide.2 (by omega)), hb⟩

set_option maxHeartbeats 4000000 in
set_option maxRecDepth 100000 in
theorem impl_TokensValid (v : Value) (l : List Tok) (fp : List Nat) (w : World) (H : (sSlice sTok).R w [v] l fp) :
  Calls Tryd.prog 44 #[v] w (Says (toksOk l) w) := by
 obtain ⟨a, cap, rfl, hc, hm, hrow⟩ := open_rows H
 unfold maxLen at hm
 clear H
 by_cases hl : 60 < l.length
 ·go_enter Tryd.func44, Tryd.ntmps44
  go_wp2
  go_ret
  exact ⟨ret_bool (by unfold toksOk; rw [decide_eq_false (by omega)]; rfl), Below.refl _ _⟩
 go_enter Tryd.func44, Tryd.ntmps44
 go_wp2
 go_loopw [10] (fun i wr => ∃ k : Nat, k ≤ l.length ∧ i = .int .i64 k ∧ AllUpto tokOk l k ∧ Below w.heap.size w wr) (fun i _ => l.length - (intOf i).toNat)
 case atStart => exact ⟨0, by omega, rfl, AllUpto.zero _ _, Below.refl _ _⟩
 case round =>
  obtain ⟨k, hk, rfl, hall, hb⟩ := hrel
  by_cases hlt : k < l.length
  ·obtain ⟨b1, off1, fps1, rfl, hb1, -, he1⟩ := hrow (by omega)
   obtain ⟨es1, hE1, hR1⟩ := he1 k hlt
   clear hrow he1
   have hR2 := sTok.below hR1 hb
   obtain ⟨h1, rfl, _, _, K1⟩ := hR1
   obtain ⟨ah, caph, rfl, -⟩ := open_rows K1
   clear K1
   have HC : Hid (∀ W, Below wr.heap.size wr W → Calls Tryd.prog 68 #[.agg #[.int .i64 l[k].kind, .string l[k].text, .bool l[k].spaced, .slice ah l[k].hidden.length caph]] W (Says (tokOk l[k]) W)) := fun W hW => impl_TokenValid _ _ _ W (sTok.below hR2 hW)
   clear hR2
   replace hE1 := hE1.frame (hb.block b1 hb1)
   have c10 : wr.cell? ⟨b1, off1 + k * 4, none⟩ = some _ := elem_cell0 hE1 (by decide) rfl
   have c11 : wr.cell? ⟨b1, off1 + k * 4 + 1, none⟩ = some _ := elem_cell (j := 1) hE1 (by decide) rfl
   have c12 : wr.cell? ⟨b1, off1 + k * 4 + 2, none⟩ = some _ := elem_cell (j := 2) hE1 (by decide) rfl
   have c13 : wr.cell? ⟨b1, off1 + k * 4 + 3, none⟩ = some _ := elem_cell (j := 3) hE1 (by decide) rfl
   clear hE1
   cases hv : tokOk l[k]
   ·have HF := Lib.hid (all_no (p := tokOk) hlt hv)
    rw [hv] at HC
    clear hv hall
    go_wp2_with (go_at_call 68; refine (HC.out _ (alloc_below' _ _)).mono ?_; rintro e w1 ⟨rfl, hb2⟩)
    go_ret
    have hb3 := (alloc_below' wr (.cells #[.int .i64 l[k].kind, .string l[k].text, .bool l[k].spaced, .slice ah l[k].hidden.length caph] 47))
    exact ⟨ret_bool (by unfold toksOk; rw [HF.out]; simp), hb.trans ((hb3.trans (hb2.mono hb3.size)).mono hb.size)⟩
   ·have HN := Lib.hid (hall.succ hlt hv)
    rw [hv] at HC
    clear hv hall
    go_wp2_with (go_at_call 68; refine (HC.out _ (alloc_below' _ _)).mono ?_; rintro e w1 ⟨rfl, hb2⟩)
    have hb3 := (alloc_below' wr (.cells #[.int .i64 l[k].kind, .string l[k].text, .bool l[k].spaced, .slice ah l[k].hidden.length caph] 47))
    go_roundw
    case rel => exact ⟨k + 1, by omega, by go_num, HN.out, hb.trans ((hb3.trans (hb2.mono hb3.size)).mono hb.size)⟩
    case measure => simp [intOf]; omega
  ·have HF := Lib.hid (all_yes (p := tokOk) hall (by omega))
   clear hall
   go_wp2
   go_ret
   exact ⟨ret_bool (by unfold toksOk; rw [HF.out, Bool.and_true]; exact (decide_eq_true (by omega)).symm), hb⟩

end Go.Proofs.YtlegeancmcmbaaaDoor
