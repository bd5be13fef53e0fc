/- Texts that the proof of U stands on, in one file. -/
import Derived.Test.YtbkmapaieillmaaZU3
import Derived.Test.YtbkmapaieillmaaZU1
import Derived.IntWalk
import Derived.Laws.Strings2
import Derived.Laws.Concat
import Derived.Test.YtbkmapaieillmaaShelf
import Derived.Deep.QuietTactic
import Derived.BigQuiet
import Derived.Test.YtbkmapaieillmaaZU2
set_option linter.unusedVariables false
set_option linter.unusedSimpArgs false
/- How many tokens there are: no program. -/
namespace Go.Proofs.Ytbkmapaieillmaa
open Go.RowKit

theorem toks_all (s : ByteArray) : ∀ (k : Nat) (sp : Bool) (n : Nat) (l : List Tok), toks s k sp n = some l → n ≤ 60 → n + l.length ≤ 60 ∧ ∀ t ∈ l, t.hidden = [] := by
  intro k sp n
  induction k, sp, n using toks.induct (s := s) with
  | case1 k sp n hk h32 ih =>
    intro l h hn
    rw [toks, dif_pos hk, if_pos h32] at h
    exact ih l h hn
  | case2 k sp n hk h32 hb =>
    intro l h hn
    rw [toks, dif_pos hk, if_neg h32, if_pos hb] at h
    exact absurd h (by simp)
  | case3 k sp n hk h32 hb ih =>
    intro l h hn
    rw [toks, dif_pos hk, if_neg h32, if_neg hb] at h
    rw [Option.map_eq_some_iff] at h
    obtain ⟨l', h1, rfl⟩ := h
    obtain ⟨a, b⟩ := ih l' h1 (by omega)
    refine ⟨by simp only [List.length_cons]; omega, fun t ht => ?_⟩
    rcases List.mem_cons.1 ht with rfl | ht
    · rfl
    · exact b t ht
  | case4 k sp n hk =>
    intro l h hn
    rw [toks, dif_neg hk] at h
    simp only [Option.some.injEq] at h
    subst h; simp; exact hn
theorem tokRes_all (s : ByteArray) : (tokRes s).1.length ≤ 60 ∧ ∀ t ∈ (tokRes s).1, t.hidden = [] := by
  rcases hr : tokRes s with ⟨l, ok⟩
  cases ok
  · obtain rfl := tokRes_false hr
    simp
  · obtain ⟨h1, _⟩ := tokRes_true hr
    have := toks_all s 0 false 0 l h1 (by omega)
    exact ⟨by simpa using this.1, this.2⟩
theorem cntTokenS_plain : ∀ {l : List Tok}, (∀ t ∈ l, t.hidden = []) → cntTokenS l = 3 * l.length
  | [], _ => rfl
  | t :: l, h => by
    have ih := cntTokenS_plain (l := l) fun x hx => h x (by simp [hx])
    unfold cntTokenS cntAll at *
    rw [List.map_cons, List.sum_cons, ih]
    have : cntToken t = 3 := by unfold cntToken; rw [h t (by simp)]; rfl
    rw [this, List.length_cons]; omega
def TokensOf_Cnt (x : ByteArray) : Prop := cntTokenS (tokRes x).1 ≤ 180
theorem TokensOf_cnt (x : ByteArray) : TokensOf_Cnt x := by
  have h := tokRes_all x
  unfold TokensOf_Cnt
  rw [cntTokenS_plain h.2]; omega

end Go.Proofs.Ytbkmapaieillmaa

/- StripComments of the model: the places behind comments and texts, and the whole. -/
namespace Go.Proofs.Ytbkmapaieillmaa
open Go.RowKit

/-- A cut of a string between two places. -/
theorem run_cut (s : ByteArray) (i j : Int) (a b : Nat) (hi : i = a) (hj : j = b) (h : a ≤ b) (h2 : b ≤ s.size) (W : World) :
    (Instr.slice 9 (.string s) (some (.int .i64 i)) (some (.int .i64 j)) none).run Try.prog W = .ok (.string (s.extract a b)) W := by
  subst hi; subst hj
  rw [run_slice_string W 9 s .i64 .i64 a b Try.underlying9 (by omega) (by omega) (by omega)]
  simp
theorem ret_int {a b : Int} (h : a = b) : Ending.returned (.int .i64 a) = .returned (.int .i64 b) := by rw [h]

set_option maxHeartbeats 400000 in
theorem spec_l2Text (s : ByteArray) (k0 : Nat) (w : World) (hs : s.size ≤ 1000000) (hk0 : k0 < s.size) :
    Calls Try.prog 71 #[.string s, .int .i64 k0] w fun e w' => e = .returned (.int .i64 (tEnd s (k0 + 1) : Nat)) ∧ w' = w := by
  go_enter Try.func71, Try.ntmps71
  go_wp2
  go_loop [5] (fun i => ∃ k : Nat, k ≤ s.size + 1 ∧ i = .int .i64 k ∧ tEnd s k = tEnd s (k0 + 1)) (fun i => s.size + 1 - (intOf i).toNat)
  case atStart => exact ⟨k0 + 1, by omega, by go_num, rfl⟩
  case round =>
    obtain ⟨k, hk, rfl, he⟩ := hrel
    by_cases hlt : k < s.size
    · by_cases h34 : s[k].toNat = 34
      · have HF := Lib.hid ((tEnd_quote hlt h34).symm.trans he)
        have h34' : ((s[k].toNat : Int) != 34) = false := by simp; omega
        clear he
        go_wp2
        all_goals (go_ret; exact ⟨ret_int (by have := HF.out; omega), rfl⟩)
      · have h34' : ((s[k].toNat : Int) != 34) = true := by simp; omega
        by_cases h92 : s[k].toNat = 92
        · have HF := Lib.hid ((tEnd_back hlt h92).symm.trans he)
          have h92' : ((s[k].toNat : Int) == 92) = true := by simp; omega
          clear he
          go_wp2
          go_round
          case rel => exact ⟨k + 2, by omega, by go_num, HF.out⟩
          case measure => simp [intOf]; omega
        · have HF := Lib.hid ((tEnd_else hlt h34 h92).symm.trans he)
          have h92' : ((s[k].toNat : Int) == 92) = false := by simp; omega
          clear he
          go_wp2
          go_round
          case rel => exact ⟨k + 1, by omega, by go_num, HF.out⟩
          case measure => simp [intOf]; omega
    · have HF := Lib.hid ((tEnd_out (s := s) (k := k) (by omega)).symm.trans he)
      clear he
      go_wp2
      all_goals (go_ret; exact ⟨ret_int (by have := HF.out; omega), rfl⟩)

set_option maxHeartbeats 400000 in
theorem impl_behindText (s : ByteArray) (k0 : Nat) (w : World) (hs : s.size ≤ 1000000) (hk0 : k0 < s.size) :
    Calls Try.prog 76 #[.string s, .int .i64 k0] w fun e w' => e = .returned (.int .i64 (tEnd s (k0 + 1) : Nat)) ∧ w' = w := by
  go_enter Try.func76, Try.ntmps76
  go_wp2
  go_loop [5] (fun i => ∃ k : Nat, k ≤ s.size + 1 ∧ i = .int .i64 k ∧ tEnd s k = tEnd s (k0 + 1)) (fun i => s.size + 1 - (intOf i).toNat)
  case atStart => exact ⟨k0 + 1, by omega, by go_num, rfl⟩
  case round =>
    obtain ⟨k, hk, rfl, he⟩ := hrel
    by_cases hlt : k < s.size
    · by_cases h34 : s[k].toNat = 34
      · have HF := Lib.hid ((tEnd_quote hlt h34).symm.trans he)
        have h34' : ((s[k].toNat : Int) == 34) = true := by simp; omega
        have h92' : ((s[k].toNat : Int) == 92) = false := by simp; omega
        clear he
        go_wp2
        go_ret
        exact ⟨ret_int (by have := HF.out; omega), rfl⟩
      · have h34' : ((s[k].toNat : Int) == 34) = false := by simp; omega
        by_cases h92 : s[k].toNat = 92
        · have HF := Lib.hid ((tEnd_back hlt h92).symm.trans he)
          have h92' : ((s[k].toNat : Int) == 92) = true := by simp; omega
          clear he
          go_wp2
          go_round
          case rel => exact ⟨k + 2, by omega, by go_num, HF.out⟩
          case measure => simp [intOf]; omega
        · have HF := Lib.hid ((tEnd_else hlt h34 h92).symm.trans he)
          have h92' : ((s[k].toNat : Int) == 92) = false := by simp; omega
          clear he
          go_wp2
          go_round
          case rel => exact ⟨k + 1, by omega, by go_num, HF.out⟩
          case measure => simp [intOf]; omega
    · have HF := Lib.hid ((tEnd_out (s := s) (k := k) (by omega)).symm.trans he)
      clear he
      go_wp2
      go_ret
      exact ⟨ret_int (by have := HF.out; omega), rfl⟩

/-- The ways from a place on. -/
def Ways (s : ByteArray) (k : Nat) (out : ByteArray) (hk : k < s.size) : Prop :=
  (two s k 47 47 = true ∧ Hid (strip1 s 0 = some out)) ∨
  (two s k 47 47 = false ∧ two s k 47 42 = true ∧ cEnd s (k + 2) < 0 ∧ Hid (strip1 s 0 = none)) ∨
  (∃ c : Nat, two s k 47 47 = false ∧ two s k 47 42 = true ∧ cEnd s (k + 2) = c ∧ k < c ∧ c ≤ s.size ∧ Hid (At1 s c (out ++ ⟨#[32]⟩))) ∨
  (∃ t : Nat, two s k 47 47 = false ∧ two s k 47 42 = false ∧ ((s[k].toNat : Int) == 34) = true ∧ tEnd s (k + 1) = t ∧ k < t ∧ t ≤ s.size ∧ Hid (At1 s t (out ++ s.extract k t))) ∨
  (two s k 47 47 = false ∧ two s k 47 42 = false ∧ ((s[k].toNat : Int) == 34) = false ∧ Hid (At1 s (k + 1) (out ++ s.extract k (k + 1))))
theorem ways {s : ByteArray} {k : Nat} {out : ByteArray} (hat : At1 s k out) (hk : k < s.size) : Ways s k out hk := by
  unfold Ways
  cases h1 : two s k 47 47
  · cases h2 : two s k 47 42
    · by_cases h3 : s[k].toNat = 34
      · have hb := tEnd_bounds s (k + 1)
        have := hb.2 (by omega)
        exact .inr (.inr (.inr (.inl ⟨_, rfl, rfl, by simp; omega, rfl, by omega, by omega, hat.text hk h1 h2 h3⟩)))
      · exact .inr (.inr (.inr (.inr ⟨rfl, rfl, by simp; omega, hat.byte hk h1 h2 h3⟩)))
    · by_cases h3 : cEnd s (k + 2) < 0
      · exact .inr (.inl ⟨rfl, rfl, h3, hat.open_ hk h1 h2 h3⟩)
      · have := cEnd_room (s := s) (k := k + 2) (by omega) (by have := two_room h2; omega)
        exact .inr (.inr (.inl ⟨(cEnd s (k + 2)).toNat, rfl, rfl, by omega, by omega, by omega, hat.comment hk h1 h2 h3⟩))
  · exact .inl ⟨rfl, hat.line hk h1⟩

end Go.Proofs.Ytbkmapaieillmaa

/- The program's tokens: one at a place. -/
namespace Go.Proofs.Ytbkmapaieillmaa
open Go.RowKit

theorem ret_ints {a b a' b' : Int} (h : a = a') (h' : b = b') : Ending.returned (.tuple #[.int .i64 a, .int .i64 b]) = .returned (.tuple #[.int .i64 a', .int .i64 b']) := by rw [h, h']

set_option maxHeartbeats 400000 in
theorem impl_isDigit (c : UInt8) (w : World) :
    Calls Try.prog 62 #[.int .u8 (c.toNat : Int)] w fun e w' => e = .returned (.bool (isDig c)) ∧ w = w' := by
  go_enter Try.func62, Try.ntmps62
  go_wp2
  all_goals
    go_ret
    exact ⟨ret_bool (by rw [Bool.eq_iff_iff, isDig_iff]; simp <;> omega), rfl⟩

set_option maxHeartbeats 400000 in
theorem impl_isWordByte (c : UInt8) (w : World) :
    Calls Try.prog 64 #[.int .u8 (c.toNat : Int)] w fun e w' => e = .returned (.bool (isWord c)) ∧ w = w' := by
  go_enter Try.func64, Try.ntmps64
  go_wp2_with (go_at_call 62; refine (impl_isDigit _ _).mono ?_; rintro e w' ⟨rfl, rfl⟩)
  all_goals
    go_ret
    exact ⟨ret_bool (by rw [Bool.eq_iff_iff, isWord_iff]; simp [isDig_iff] <;> omega), rfl⟩

set_option maxHeartbeats 400000 in
theorem impl_behindWord (s : ByteArray) (k0 : Nat) (w : World) (hs : s.size ≤ 1000000) (hk0 : k0 ≤ s.size) :
    Calls Try.prog 63 #[.string s, .int .i64 k0] w fun e w' => e = .returned (.int .i64 (wordTo s k0)) ∧ w = w' := by
  go_enter Try.func63, Try.ntmps63
  go_wp2
  go_loop [5] (fun i => ∃ k : Nat, k0 ≤ k ∧ k ≤ s.size ∧ i = .int .i64 k ∧ wEnd s k = wEnd s k0) (fun i => s.size - (intOf i).toNat)
  case atStart => exact ⟨k0, by omega, by omega, rfl, rfl⟩
  case round =>
    obtain ⟨k, hk0, hk, rfl, he⟩ := hrel
    have HE := Lib.hid he; clear he
    by_cases hlt : k < s.size
    · cases hw : isWord s[k]
      · have HF := Lib.hid ((wEnd_stop hlt hw).symm.trans HE.out)
        go_wp2_with (go_at_call 64; refine (impl_isWordByte _ _).mono ?_; rw [hw]; rintro e w' ⟨rfl, rfl⟩)
        all_goals
          go_ret
          exact ⟨ret_int (by first | exact wordTo_long HF.out (by omega) | exact wordTo_short HF.out (by omega)), rfl⟩
      · have HF := Lib.hid ((wEnd_in hlt hw).symm.trans HE.out)
        go_wp2_with (go_at_call 64; refine (impl_isWordByte _ _).mono ?_; rw [hw]; rintro e w' ⟨rfl, rfl⟩)
        go_round
        case rel => exact ⟨k + 1, by omega, by omega, by go_num, HF.out⟩
        case measure => simp [intOf]; omega
    · have HF := Lib.hid ((wEnd_out (s := s) (k := k) (by omega)).symm.trans HE.out)
      go_wp2
      all_goals
        go_ret
        exact ⟨ret_int (by first | exact wordTo_long HF.out (by omega) | exact wordTo_short HF.out (by omega)), rfl⟩

set_option maxHeartbeats 400000 in
theorem impl_behindClosedText (s : ByteArray) (k0 : Nat) (w : World) (hs : s.size ≤ 999000) (hk0 : k0 < s.size) :
    Calls Try.prog 65 #[.string s, .int .i64 k0] w fun e w' => e = .returned (.int .i64 (closeTo s (k0 + 1))) ∧ w = w' := by
  have hadd := fun W => run_string_add_sum (P := Try.prog) W s ⟨#[32]⟩ (by show s.size + 1 ≤ _; omega)
  have HP := Lib.hid (tEnd_plus s (k0 + 1) (by omega))
  have HS := Lib.hid (plus_size s)
  have HT : Hid (∀ W, Calls Try.prog 76 #[.string (plus s), .int .i64 k0] W fun e w' => e = .returned (.int .i64 (tEnd (plus s) (k0 + 1) : Nat)) ∧ w' = W) := fun W => impl_behindText (plus s) k0 W (by rw [HS.out]; omega) (by rw [HS.out]; omega)
  cases hc : tClose s (k0 + 1) with
  | none =>
    have HV : Hid (tEnd (plus s) (k0 + 1) = s.size + 1) := by show _ = _; rw [HP.out, hc]
    go_enter Try.func65, Try.ntmps65
    go_wp2_with (go_at_call 76; refine (HT.out _).mono ?_; rw [HV.out]; rintro e w' ⟨rfl, rfl⟩)
    go_ret
    exact ⟨ret_int (closeTo_none hc).symm, rfl⟩
  | some e =>
    have hb := tClose_some hc
    have hb1 := hb.1
    have hb2 := hb.2.1
    clear hb
    have HV : Hid (tEnd (plus s) (k0 + 1) = e) := by show _ = _; rw [HP.out, hc]
    go_enter Try.func65, Try.ntmps65
    go_wp2_with (go_at_call 76; refine (HT.out _).mono ?_; rw [HV.out]; rintro e w' ⟨rfl, rfl⟩)
    go_ret
    exact ⟨ret_int (closeTo_some hc).symm, rfl⟩

theorem indexByte_neg : ∀ (l : List UInt8) (c : UInt8), Lib.indexByte l c < 0 ↔ ¬ c ∈ l
  | [], c => by simp [Lib.indexByte]
  | b :: l, c => by
    have ih := indexByte_neg l c
    have hg := Lib.indexByte_ge l c
    unfold Lib.indexByte
    by_cases hb : (b == c) = true
    · rw [if_pos hb]; simp at hb; subst hb; simp
    · rw [if_neg hb]
      have hne : ¬ c = b := fun e => hb (by rw [e]; simp)
      by_cases h1 : (Lib.indexByte l c == -1) = true
      · rw [if_pos h1]
        have : Lib.indexByte l c = -1 := by simpa using h1
        simp only [List.mem_cons, not_or]
        exact ⟨fun _ => ⟨hne, ih.1 (by omega)⟩, fun _ => by omega⟩
      · rw [if_neg h1]
        have : ¬ Lib.indexByte l c = -1 := by simpa using h1
        simp only [List.mem_cons, not_or]
        exact ⟨fun h => absurd h (by omega), fun h => absurd (ih.2 h.2) (by omega)⟩
theorem go_mark (c : UInt8) (w : World) :
    Calls Try.prog 77 #[.string ⟨#[43, 45, 42, 47, 37, 60, 62, 61, 33, 38, 124, 40, 41, 44, 35, 59, 63, 58, 123, 125, 91, 93, 46]⟩, .int .u8 (c.toNat : Int)] w fun e w' => (∃ r : Int, e = .returned (.int .i64 r) ∧ (r < 0 ↔ ¬ c ∈ marks1)) ∧ w = w' := by
  refine (Try.strings_IndexByte _ _ w).mono ?_
  rintro e w' ⟨rfl, rfl⟩
  refine ⟨⟨_, rfl, ?_⟩, rfl⟩
  rw [indexByte_neg]
  have : ((c.toNat : Int)).toNat.toUInt8 = c := by simp
  rw [this]
  exact Iff.rfl

/-- The ways of two bytes. -/
theorem eight (s : ByteArray) (k : Nat) :
    (two s k 61 61 = true ∧ Hid (twoAt s k = true)) ∨
    (two s k 61 61 = false ∧ two s k 33 61 = true ∧ Hid (twoAt s k = true)) ∨
    (two s k 61 61 = false ∧ two s k 33 61 = false ∧ two s k 60 61 = true ∧ Hid (twoAt s k = true)) ∨
    (two s k 61 61 = false ∧ two s k 33 61 = false ∧ two s k 60 61 = false ∧ two s k 62 61 = true ∧ Hid (twoAt s k = true)) ∨
    (two s k 61 61 = false ∧ two s k 33 61 = false ∧ two s k 60 61 = false ∧ two s k 62 61 = false ∧ two s k 38 38 = true ∧ Hid (twoAt s k = true)) ∨
    (two s k 61 61 = false ∧ two s k 33 61 = false ∧ two s k 60 61 = false ∧ two s k 62 61 = false ∧ two s k 38 38 = false ∧ two s k 124 124 = true ∧ Hid (twoAt s k = true)) ∨
    (two s k 61 61 = false ∧ two s k 33 61 = false ∧ two s k 60 61 = false ∧ two s k 62 61 = false ∧ two s k 38 38 = false ∧ two s k 124 124 = false ∧ two s k 35 35 = true ∧ Hid (twoAt s k = true)) ∨
    (two s k 61 61 = false ∧ two s k 33 61 = false ∧ two s k 60 61 = false ∧ two s k 62 61 = false ∧ two s k 38 38 = false ∧ two s k 124 124 = false ∧ two s k 35 35 = false ∧ Hid (twoAt s k = false)) := by
  simp only [Hid, twoAt]
  cases two s k 61 61 <;> cases two s k 33 61 <;> cases two s k 60 61 <;> cases two s k 62 61 <;> cases two s k 38 38 <;> cases two s k 124 124 <;> cases two s k 35 35 <;> simp

theorem markTo_two {s : ByteArray} {k : Nat} (h : twoAt s k = true) : ((k : Int) + 2) = markTo s k := by unfold markTo mLen; rw [if_pos h]; simp
theorem mLen_one {s : ByteArray} {k : Nat} (h : twoAt s k = false) (hk : k < s.size) (hm : s[k] ∈ marks1) : mLen s k = 1 := by unfold mLen; rw [h]; simp [hk, hm]
theorem mLen_none {s : ByteArray} {k : Nat} (h : twoAt s k = false) (hk : k < s.size) (hm : ¬ s[k] ∈ marks1) : mLen s k = 0 := by unfold mLen; rw [h]; simp [hk, hm]
theorem markTo_one {s : ByteArray} {k : Nat} (h : twoAt s k = false) (hk : k < s.size) (hm : s[k] ∈ marks1) : ((k : Int) + 1) = markTo s k := by unfold markTo; rw [mLen_one h hk hm]; simp
theorem markTo_none {s : ByteArray} {k : Nat} (h : twoAt s k = false) (hk : k < s.size) (hm : ¬ s[k] ∈ marks1) : (-1 : Int) = markTo s k := by unfold markTo; rw [mLen_none h hk hm]; simp

set_option maxHeartbeats 1000000 in
theorem impl_behindMark (s : ByteArray) (k : Nat) (w : World) (hs : s.size ≤ 1000000) (hk : k < s.size) :
    Calls Try.prog 66 #[.string s, .int .i64 k] w fun e w' => e = .returned (.int .i64 (markTo s k)) ∧ w = w' := by
  by_cases hr : k + 2 ≤ s.size
  · have hsl := run_cut s (k : Int) ((k : Int) + 2) k (k + 2) rfl (by omega) (by omega) (by omega)
    have e1 := ext_two s k 61 61
    have e2 := ext_two s k 33 61
    have e3 := ext_two s k 60 61
    have e4 := ext_two s k 62 61
    have e5 := ext_two s k 38 38
    have e6 := ext_two s k 124 124
    have e7 := ext_two s k 35 35
    rcases eight s k with ⟨h1, HT⟩ | ⟨h1, h2, HT⟩ | ⟨h1, h2, h3, HT⟩ | ⟨h1, h2, h3, h4, HT⟩ | ⟨h1, h2, h3, h4, h5, HT⟩ | ⟨h1, h2, h3, h4, h5, h6, HT⟩ | ⟨h1, h2, h3, h4, h5, h6, h7, HT⟩ | ⟨h1, h2, h3, h4, h5, h6, h7, HT⟩
    all_goals
      (try rw [h1] at e1); (try rw [h2] at e2); (try rw [h3] at e3); (try rw [h4] at e4); (try rw [h5] at e5); (try rw [h6] at e6); (try rw [h7] at e7)
      go_enter Try.func66, Try.ntmps66
      go_wp2_with (go_at_call 77; refine (go_mark _ _).mono ?_; rintro e w' ⟨⟨r, rfl, hr⟩, rfl⟩; have HR := Lib.hid hr; clear hr)
      all_goals
        go_ret
        exact ⟨ret_int (by first | exact markTo_two HT.out | exact markTo_one HT.out hk (Decidable.byContradiction fun h => absurd (HR.out.2 h) (by omega)) | exact markTo_none HT.out hk (HR.out.1 (by omega))), rfl⟩
  · have HT : Hid (twoAt s k = false) := by
      show _ = _
      cases h : twoAt s k
      · rfl
      · have := twoAt_room h; omega
    go_enter Try.func66, Try.ntmps66
    go_wp2_with (go_at_call 77; refine (go_mark _ _).mono ?_; rintro e w' ⟨⟨r, rfl, hr⟩, rfl⟩; have HR := Lib.hid hr; clear hr)
    all_goals
      go_ret
      exact ⟨ret_int (by first | exact markTo_one HT.out hk (Decidable.byContradiction fun h => absurd (HR.out.2 h) (by omega)) | exact markTo_none HT.out hk (HR.out.1 (by omega))), rfl⟩

theorem kind_dig {c : UInt8} (h : isDig c = true) : (2 : Int) = cutKind c := by unfold cutKind; rw [if_pos h]
theorem kind_word {c : UInt8} (h : isDig c = false) (hw : isWord c = true) : (1 : Int) = cutKind c := by
  unfold cutKind; unfold isWord at hw; rw [h, Bool.or_false] at hw; rw [if_neg (by simp [h]), if_pos hw]
theorem kind_text {c : UInt8} (hw : isWord c = false) (hq : c.toNat = 34) : (3 : Int) = cutKind c := by
  unfold isWord at hw; rw [Bool.or_eq_false_iff] at hw; unfold cutKind; rw [if_neg (by simp [hw.2]), if_neg (by simp [hw.1]), if_pos hq]
theorem kind_mark {c : UInt8} (hw : isWord c = false) (hq : ¬ c.toNat = 34) : (4 : Int) = cutKind c := by
  unfold isWord at hw; rw [Bool.or_eq_false_iff] at hw; unfold cutKind; rw [if_neg (by simp [hw.2]), if_neg (by simp [hw.1]), if_neg hq]
theorem dig_word {c : UInt8} (h : isDig c = true) : isWord c = true := by unfold isWord; rw [h, Bool.or_true]
theorem cutEnd_w {s : ByteArray} {k : Nat} (h : k < s.size) (hw : isWord s[k] = true) : wordTo s k = cutEnd s k := by rw [cutEnd, dif_pos h, if_pos hw]
theorem cutEnd_t {s : ByteArray} {k : Nat} (h : k < s.size) (hw : isWord s[k] = false) (hq : s[k].toNat = 34) : closeTo s (k + 1) = cutEnd s k := by rw [cutEnd, dif_pos h, if_neg (by simp [hw]), if_pos hq]
theorem cutEnd_m {s : ByteArray} {k : Nat} (h : k < s.size) (hw : isWord s[k] = false) (hq : ¬ s[k].toNat = 34) : markTo s k = cutEnd s k := by rw [cutEnd, dif_pos h, if_neg (by simp [hw]), if_neg hq]

set_option maxHeartbeats 1000000 in
theorem impl_tokenAt (s : ByteArray) (k : Nat) (w : World) (hs : s.size ≤ 999000) (hk : k < s.size) :
    Calls Try.prog 55 #[.string s, .int .i64 k] w fun e w' => e = .returned (.tuple #[.int .i64 (cutKind s[k]), .int .i64 (cutEnd s k)]) ∧ w = w' := by
  cases hd : isDig s[k]
  · cases hw : isWord s[k]
    · by_cases hq : s[k].toNat = 34
      · have h34 : ((s[k].toNat : Int) == 34) = true := by simp; omega
        have HF := Lib.hid (cutEnd_t hk hw hq)
        have HK := Lib.hid (kind_text hw hq)
        clear hq
        go_enter Try.func55, Try.ntmps55
        go_wp2_with (first
          | (go_at_call 62; refine (impl_isDigit _ _).mono ?_; rw [hd]; rintro e w' ⟨rfl, rfl⟩)
          | (go_at_call 64; refine (impl_isWordByte _ _).mono ?_; rw [hw]; rintro e w' ⟨rfl, rfl⟩)
          | (go_at_call 65; refine (impl_behindClosedText s k _ hs hk).mono ?_; rintro e w' ⟨rfl, rfl⟩))
        go_ret2
        exact ⟨ret_ints HK.out HF.out, rfl⟩
      · have h34 : ((s[k].toNat : Int) == 34) = false := by simp; omega
        have HF := Lib.hid (cutEnd_m hk hw hq)
        have HK := Lib.hid (kind_mark hw hq)
        clear hq
        go_enter Try.func55, Try.ntmps55
        go_wp2_with (first
          | (go_at_call 62; refine (impl_isDigit _ _).mono ?_; rw [hd]; rintro e w' ⟨rfl, rfl⟩)
          | (go_at_call 64; refine (impl_isWordByte _ _).mono ?_; rw [hw]; rintro e w' ⟨rfl, rfl⟩)
          | (go_at_call 66; refine (impl_behindMark s k _ (by omega) hk).mono ?_; rintro e w' ⟨rfl, rfl⟩))
        go_ret2
        exact ⟨ret_ints HK.out HF.out, rfl⟩
    · have HF := Lib.hid (cutEnd_w hk hw)
      have HK := Lib.hid (kind_word hd hw)
      go_enter Try.func55, Try.ntmps55
      go_wp2_with (first
        | (go_at_call 62; refine (impl_isDigit _ _).mono ?_; rw [hd]; rintro e w' ⟨rfl, rfl⟩)
        | (go_at_call 64; refine (impl_isWordByte _ _).mono ?_; rw [hw]; rintro e w' ⟨rfl, rfl⟩)
        | (go_at_call 63; refine (impl_behindWord s k _ (by omega) (by omega)).mono ?_; rintro e w' ⟨rfl, rfl⟩))
      go_ret2
      exact ⟨ret_ints HK.out HF.out, rfl⟩
  · have HF := Lib.hid (cutEnd_w hk (dig_word hd))
    have HK := Lib.hid (kind_dig hd)
    go_enter Try.func55, Try.ntmps55
    go_wp2_with (first
      | (go_at_call 62; refine (impl_isDigit _ _).mono ?_; rw [hd]; rintro e w' ⟨rfl, rfl⟩)
      | (go_at_call 63; refine (impl_behindWord s k _ (by omega) (by omega)).mono ?_; rintro e w' ⟨rfl, rfl⟩))
    go_ret2
    exact ⟨ret_ints HK.out HF.out, rfl⟩

end Go.Proofs.Ytbkmapaieillmaa

/- TokensOf of the program. -/
namespace Go.Proofs.Ytbkmapaieillmaa
open Go.RowKit

theorem lineOk_size' {s : ByteArray} (h : lineOk s = true) : s.size ≤ 200 := by
  unfold lineOk at h; rw [Bool.and_eq_true, decide_eq_true_eq] at h; exact h.1
theorem ret_toks {v : Value} {l : List Tok} {b : Bool} {s : ByteArray} (h : tokRes s = (l, b)) {B : Nat} {w w' : World} {fp : List Nat} (hr : (sSlice sTok).R w' [v] l fp) (ho : Own w' w.heap.size fp) (hb : Below w.heap.size w w') :
    TokMade (tokRes s) w (.returned (.tuple #[v, .bool b])) w' := by
  rw [h]; exact ⟨v, fp, rfl, hr, ho, hb⟩
theorem ret_no {s : ByteArray} (h : tokRes s = ([], false)) {w w' : World} {a : Option Addr} {cap : Nat} (hc : cap ≤ maxLen) (hb : Below w.heap.size w w') :
    TokMade (tokRes s) w (.returned (.tuple #[.slice a 0 cap, .bool false])) w' := by
  rw [h]; exact ⟨_, [], rfl, slice_empty _ _ _ _ hc, Own.nil _ _, hb⟩

set_option maxHeartbeats 4000000 in
theorem impl_TokensOf (s : ByteArray) (w : World) (hs : s.size ≤ maxLen) :
    Calls Try.prog 31 #[.string s] w (TokMade (tokRes s) w) := by
  have hm := hs
  unfold maxLen at hm
  cases h0 : lineOk s
  · have HF := Lib.hid (tokRes_bad h0)
    go_enter Try.func31, Try.ntmps31
    go_wp2_with (go_at_call 38; refine (impl_LineValid _ _ hs).mono ?_; rw [h0]; rintro e w' ⟨rfl, rfl⟩)
    go_ret2
    exact ret_no HF.out (by simp) (Below.refl _ _)
  have hsz := lineOk_size' h0
  have H0 := Lib.hid h0
  go_enter Try.func31, Try.ntmps31
  go_wp2_with (go_at_call 38; refine (impl_LineValid _ _ hs).mono ?_; rw [h0]; rintro e w' ⟨rfl, rfl⟩)
  clear h0
  go_loopw [4, 5, 6] (fun v sp i wr => ∃ (k : Nat) (b : Bool) (out : List Tok), k ≤ s.size ∧ i = .int .i64 k ∧ sp = .bool b ∧ AtT s k b out ∧ Fresh s.size out ∧ TokRow w.heap.size v out wr ∧ Below w.heap.size w wr) (fun _ _ i _ => s.size - (intOf i).toNat)
  case atStart => exact ⟨0, false, [], by omega, rfl, rfl, AtT.zero s, Fresh.nil _, TokRow.nil _ _, Below.refl _ _⟩
  case round =>
    obtain ⟨k, b, out, hk, rfl, rfl, hat, hfr, hown, hbel⟩ := hrel
    have ho : out.length ≤ 60 := hat.2
    have hbs := hbel.size
    by_cases hlt : k < s.size
    · by_cases h32 : s[k].toNat = 32
      · have HN := Lib.hid (hat.space hlt h32)
        have h32' : ((s[k].toNat : Int) == 32) = true := by simp; omega
        clear hat h32
        go_wp2
        go_roundw
        case rel => exact ⟨k + 1, true, out, by omega, by go_num, rfl, HN.out, hfr, hown, hbel⟩
        case measure => simp [intOf]; omega
      · have h32' : ((s[k].toNat : Int) == 32) = false := by simp; omega
        rcases cutEnd_ge s k with hneg | ⟨e, he, hke, hes⟩
        · have HF := Lib.hid (tokRes_none (hat.bad hlt h32 (.inl hneg)))
          clear hat h32
          go_wp2_with (go_at_call 55; refine (impl_tokenAt s k _ (by omega) hlt).mono ?_; rintro e w' ⟨rfl, rfl⟩)
          go_ret2
          exact ret_no HF.out (by simp) hbel
        · obtain ⟨a, cap, rfl, hcm⟩ := hown.slice
          by_cases h60 : out.length = 60
          · have HF := Lib.hid (tokRes_none (hat.bad hlt h32 (.inr h60)))
            have h60' : ((out.length : Int) == 60) = true := by simp; omega
            clear hat h32 h60
            go_wp2_with (go_at_call 55; refine (impl_tokenAt s k _ (by omega) hlt).mono ?_; rw [he]; rintro e w' ⟨rfl, rfl⟩)
            go_ret2
            exact ret_no HF.out (by simp) hbel
          · have HN := Lib.hid (hat.tok hlt h32 he h60)
            have HR := Lib.hid (hfr.snoc (k := k) (e := e) (sp := b) (c := s[k]) (Nat.le_refl s.size))
            have h60' : ((out.length : Int) == 60) = false := by simp; omega
            have hsl2 := fun W => (run_cut s (k : Int) (e : Int) k e rfl rfl (by omega) (by omega) W)
            clear hat h32 h60
            go_wp2_with (first
              | (go_at_call 55; refine (impl_tokenAt s k _ (by omega) hlt).mono ?_; rw [he]; rintro e w' ⟨rfl, rfl⟩)
              | (at_builtin; refine wp_append_tok rfl (.tmp 35) (.tmp 43) rfl w.heap.size _ out _ _ _ rfl hown rfl (by omega) hbs ?_; intro v1 w1 hown1 hg1))
            have hbel1 := hbel.grown hg1 hbs hown.mine
            go_roundw
            case rel => exact ⟨e, false, _, hes, rfl, rfl, HN.out, HR.out, hown1, hbel1⟩
            case measure => simp [intOf]; omega
    · have HF := Lib.hid (tokRes_some H0.out (hat.done (by omega)))
      clear hat
      go_wp2
      go_ret2
      obtain ⟨fp, h1, h2, _⟩ := own_toks hown hfr (by omega)
      exact ret_toks (B := 0) HF.out h1 h2 hbel

end Go.Proofs.Ytbkmapaieillmaa

/- The model's tokens. -/
namespace Go.Proofs.Ytbkmapaieillmaa
open Go.RowKit

set_option maxHeartbeats 400000 in
theorem spec_l3Digit (c : UInt8) (w : World) :
    Calls Try.prog 70 #[.int .u8 (c.toNat : Int)] w fun e w' => e = .returned (.bool (isDig c)) ∧ w = w' := by
  go_enter Try.func70, Try.ntmps70
  go_wp2
  all_goals
    go_ret
    exact ⟨ret_bool (by rw [Bool.eq_iff_iff, isDig_iff]; simp <;> omega), rfl⟩

set_option maxHeartbeats 400000 in
theorem spec_l3Letter (c : UInt8) (w : World) :
    Calls Try.prog 69 #[.int .u8 (c.toNat : Int)] w fun e w' => e = .returned (.bool (isLet c)) ∧ w = w' := by
  go_enter Try.func69, Try.ntmps69
  go_wp2
  all_goals
    go_ret
    exact ⟨ret_bool (by rw [Bool.eq_iff_iff, isLet_iff]; simp <;> omega), rfl⟩

theorem word_of_let {c : UInt8} (h : isLet c = true) : isWord c = true := by unfold isWord; rw [h, Bool.true_or]
theorem word_of_no {c : UInt8} (h : isLet c = false) (h2 : isDig c = false) : isWord c = false := by unfold isWord; rw [h, h2]; rfl

set_option maxHeartbeats 400000 in
theorem spec_l3Back (s : ByteArray) (k0 e : Nat) (w : World) (hs : s.size ≤ 1000000) (he : e ≤ s.size) (h1 : 1 ≤ e) (hk0 : k0 < s.size) :
    Calls Try.prog 72 #[.string s, .int .i64 k0, .int .i64 e] w fun r w' => r = .returned (.bool (decide (bk s (k0 + 1) (e - 1) ≠ e - 1))) ∧ w = w' := by
  go_enter Try.func72, Try.ntmps72
  go_wp2
  go_loop [7] (fun i => ∃ k : Nat, k ≤ s.size + 1 ∧ i = .int .i64 k ∧ bk s k (e - 1) = bk s (k0 + 1) (e - 1)) (fun i => s.size + 1 - (intOf i).toNat)
  case atStart => exact ⟨k0 + 1, by omega, by go_num, rfl⟩
  case round =>
    obtain ⟨k, hk, rfl, hb⟩ := hrel
    by_cases hlt : k < e - 1
    · have hlt' : (k : Int) < (e : Int) - 1 := by omega
      have hks : k < s.size := by omega
      by_cases h92 : s[k].toNat = 92
      · have HF := Lib.hid ((bk_back hlt hks h92).symm.trans hb)
        have h92' : ((s[k].toNat : Int) == 92) = true := by simp; omega
        clear hb h92
        go_wp2
        go_round
        case rel => exact ⟨k + 2, by omega, by go_num, HF.out⟩
        case measure => simp [intOf]; omega
      · have HF := Lib.hid ((bk_else hlt hks h92).symm.trans hb)
        have h92' : ((s[k].toNat : Int) == 92) = false := by simp; omega
        clear hb h92
        go_wp2
        go_round
        case rel => exact ⟨k + 1, by omega, by go_num, HF.out⟩
        case measure => simp [intOf]; omega
    · have HF := Lib.hid ((bk_out (s := s) (k := k) (e := e - 1) (by omega)).symm.trans hb)
      have hge : ¬ (k : Int) < (e : Int) - 1 := by omega
      clear hb
      go_wp2
      go_ret
      exact ⟨ret_bool (by rw [← HF.out, Bool.eq_iff_iff]; simp; omega), rfl⟩

def NoMark (c : UInt8) (k : Nat) : Prop := ∀ j, (h : j < marks1.length) → j < k → marks1[j] ≠ c
theorem NoMark.zero (c : UInt8) : NoMark c 0 := by intro j h hj; omega
theorem NoMark.succ {c : UInt8} {k : Nat} (h : NoMark c k) (hk : k < marks1.length) (hc : marks1[k] ≠ c) : NoMark c (k + 1) := by
  intro j hj hjk
  by_cases e : j = k
  · subst e; exact hc
  · exact h j hj (by omega)
theorem NoMark.none {c : UInt8} (h : NoMark c 23) : ¬ c ∈ marks1 := by
  intro hc
  obtain ⟨i, hi, rfl⟩ := List.getElem_of_mem hc
  exact h i hi hi rfl

set_option maxHeartbeats 1000000 in
theorem spec_l3Mark (s : ByteArray) (k : Nat) (w : World) (hs : s.size ≤ 1000000) (hk : k < s.size) :
    Calls Try.prog 73 #[.string s, .int .i64 k] w fun e w' => e = .returned (.int .i64 (mLen s k : Nat)) ∧ ∃ n, w' = w.drewN n := by
  have hsl : ∀ W, (Instr.slice 9 (.string s) (some (.int .i64 (k : Int))) (some (.int .i64 (min (s.size : Int) ((k : Int) + 2)))) none).run Try.prog W = .ok (.string (s.extract k (k + 2))) W := by
    intro W
    rw [run_cut s _ _ k (min s.size (k + 2)) rfl (by omega) (by omega) (by omega) W, ext_min]
  have e1 := ext_two s k 61 61
  have e2 := ext_two s k 33 61
  have e3 := ext_two s k 60 61
  have e4 := ext_two s k 62 61
  have e5 := ext_two s k 38 38
  have e6 := ext_two s k 124 124
  have e7 := ext_two s k 35 35
  rcases eight s k with ⟨h1, HT⟩ | ⟨h1, h2, HT⟩ | ⟨h1, h2, h3, HT⟩ | ⟨h1, h2, h3, h4, HT⟩ | ⟨h1, h2, h3, h4, h5, HT⟩ | ⟨h1, h2, h3, h4, h5, h6, HT⟩ | ⟨h1, h2, h3, h4, h5, h6, h7, HT⟩ | ⟨h1, h2, h3, h4, h5, h6, h7, HT⟩
  iterate 7
    · (try rw [h1] at e1); (try rw [h2] at e2); (try rw [h3] at e3); (try rw [h4] at e4); (try rw [h5] at e5); (try rw [h6] at e6); (try rw [h7] at e7)
      have HF : Hid (mLen s k = 2) := by show _ = _; unfold mLen; rw [if_pos HT.out]
      go_enter Try.func73, Try.ntmps73
      go_wp2
      go_ret
      exact ⟨ret_int (by rw [HF.out]; rfl), 0, rfl⟩
  · rw [h1] at e1; rw [h2] at e2; rw [h3] at e3; rw [h4] at e4; rw [h5] at e5; rw [h6] at e6; rw [h7] at e7
    go_enter Try.func73, Try.ntmps73
    go_wp2
    go_loopw [7] (fun i wr => ∃ j : Nat, j ≤ 23 ∧ i = .int .i64 j ∧ NoMark s[k] j ∧ ∃ n, wr = w.drewN n) (fun i _ => 23 - (intOf i).toNat)
    case atStart => exact ⟨0, by omega, rfl, NoMark.zero _, 0, rfl⟩
    case round =>
      obtain ⟨j, hj, rfl, hno, n, rfl⟩ := hrel
      by_cases hlt : j < 23
      · have hix : ∀ W, (Instr.index 9 (.string ⟨#[43, 45, 42, 47, 37, 60, 62, 61, 33, 38, 124, 40, 41, 44, 35, 59, 63, 58, 123, 125, 91, 93, 46]⟩) (.int .i64 (j : Int))).run Try.prog W = .ok (.int .u8 ((marks1[j]'hlt).toNat : Int)) W := by
          intro W
          have h1 : (0 : Int) ≤ (j : Int) ∧ (j : Int) < ((⟨#[43, 45, 42, 47, 37, 60, 62, 61, 33, 38, 124, 40, 41, 44, 35, 59, 63, 58, 123, 125, 91, 93, 46]⟩ : ByteArray).size : Int) := ⟨by omega, by show (j : Int) < 23; omega⟩
          rw [run_index_string W _ _ .i64 (j : Int) Try.underlying9, dif_pos h1]
          rfl
        by_cases hc : marks1[j]'hlt = s[k]
        · have HF : Hid (mLen s k = 1) := mLen_one HT.out hk (hc ▸ List.getElem_mem hlt)
          have hce : (((marks1[j]'hlt).toNat : Int) == (s[k].toNat : Int)) = true := by rw [hc]; simp
          clear hc
          go_wp2
          go_quiet (fail)
          go_wp2
          go_ret
          exact ⟨ret_int (by rw [HF.out]; rfl), _, World.drewN_drewN _ _ _⟩
        · have HN := Lib.hid (hno.succ hlt hc)
          have hce : (((marks1[j]'hlt).toNat : Int) == (s[k].toNat : Int)) = false := by
            rw [beq_eq_false_iff_ne]; intro h; exact hc (UInt8.toNat_inj.1 (by omega))
          clear hc hno
          go_wp2
          go_quiet (fail)
          go_wp2
          go_roundw
          case rel => exact ⟨j + 1, by omega, by go_num, HN.out, _, rfl⟩
          case measure => simp [intOf]; omega
      · obtain rfl : j = 23 := by omega
        have HF : Hid (mLen s k = 0) := mLen_none HT.out hk hno.none
        go_wp2
        go_ret
        exact ⟨ret_int (by rw [HF.out]; rfl), _, rfl⟩

theorem sCut_w {s : ByteArray} {k : Nat} (h : k < s.size) (hl : isLet s[k] = true) : sCut s k = (1, (wEnd s (k + 1) : Int)) := by rw [sCut_word h (word_of_let hl), if_pos hl]
theorem sCut_d {s : ByteArray} {k : Nat} (h : k < s.size) (hl : isLet s[k] = false) (hd : isDig s[k] = true) : sCut s k = (2, (wEnd s (k + 1) : Int)) := by rw [sCut_word h (dig_word hd), if_neg (by simp [hl])]
theorem ret_cut {s : ByteArray} {k : Nat} {a b : Int} (h : sCut s k = (a, b)) : Ending.returned (.tuple #[.int .i64 a, .int .i64 b]) = .returned (.tuple #[.int .i64 (sCut s k).1, .int .i64 (sCut s k).2]) := by rw [h]

set_option maxHeartbeats 2000000 in
theorem cut_let (s : ByteArray) (k0 : Nat) (w : World) (hs : s.size ≤ 1000000) (hk0 : k0 < s.size) (hl : isLet s[k0] = true) :
    Calls Try.prog 58 #[.string s, .int .i64 k0] w fun e w' => e = .returned (.tuple #[.int .i64 (sCut s k0).1, .int .i64 (sCut s k0).2]) ∧ ∃ n, w' = w.drewN n := by
  have HF := Lib.hid (sCut_w hk0 hl)
  go_enter Try.func58, Try.ntmps58
  go_wp2_with (first
    | (go_at_call 69; refine (spec_l3Letter _ _).mono ?_; rw [hl]; rintro e w' ⟨rfl, rfl⟩))
  go_loop [6] (fun i => ∃ k : Nat, k0 + 1 ≤ k ∧ k ≤ s.size ∧ i = .int .i64 k ∧ wEnd s k = wEnd s (k0 + 1)) (fun i => s.size - (intOf i).toNat)
  case atStart => exact ⟨k0 + 1, by omega, by omega, by go_num, rfl⟩
  case round =>
    obtain ⟨k, hk1, hk, rfl, he⟩ := hrel
    have HE := Lib.hid he; clear he
    by_cases hlt : k < s.size
    · cases hl2 : isLet s[k]
      · cases hd2 : isDig s[k]
        · have HG := Lib.hid ((wEnd_stop hlt (word_of_no hl2 hd2)).symm.trans HE.out)
          go_wp2_with (first
            | (go_at_call 69; refine (spec_l3Letter _ _).mono ?_; (first | rw [hl2] | rw [hl]); rintro e w' ⟨rfl, rfl⟩)
            | (go_at_call 70; refine (spec_l3Digit _ _).mono ?_; rw [hd2]; rintro e w' ⟨rfl, rfl⟩))
          go_ret2
          exact ⟨ret_cut (by rw [HF.out, ← HG.out]), 0, rfl⟩
        · have HG := Lib.hid ((wEnd_in hlt (dig_word hd2)).symm.trans HE.out)
          go_wp2_with (first
            | (go_at_call 69; refine (spec_l3Letter _ _).mono ?_; rw [hl2]; rintro e w' ⟨rfl, rfl⟩)
            | (go_at_call 70; refine (spec_l3Digit _ _).mono ?_; rw [hd2]; rintro e w' ⟨rfl, rfl⟩))
          go_round
          case rel => exact ⟨k + 1, by omega, by omega, by go_num, HG.out⟩
          case measure => simp [intOf]; omega
      · have HG := Lib.hid ((wEnd_in hlt (word_of_let hl2)).symm.trans HE.out)
        go_wp2_with (first
          | (go_at_call 69; refine (spec_l3Letter _ _).mono ?_; rw [hl2]; rintro e w' ⟨rfl, rfl⟩))
        go_round
        case rel => exact ⟨k + 1, by omega, by omega, by go_num, HG.out⟩
        case measure => simp [intOf]; omega
    · have HG := Lib.hid ((wEnd_out (s := s) (k := k) (by omega)).symm.trans HE.out)
      go_wp2_with (first
        | (go_at_call 69; refine (spec_l3Letter _ _).mono ?_; rw [hl]; rintro e w' ⟨rfl, rfl⟩))
      go_ret2
      exact ⟨ret_cut (by rw [HF.out, ← HG.out]), 0, rfl⟩

set_option maxHeartbeats 2000000 in
theorem cut_dig (s : ByteArray) (k0 : Nat) (w : World) (hs : s.size ≤ 1000000) (hk0 : k0 < s.size) (hl : isLet s[k0] = false) (hd : isDig s[k0] = true) :
    Calls Try.prog 58 #[.string s, .int .i64 k0] w fun e w' => e = .returned (.tuple #[.int .i64 (sCut s k0).1, .int .i64 (sCut s k0).2]) ∧ ∃ n, w' = w.drewN n := by
  have HF := Lib.hid (sCut_d hk0 hl hd)
  go_enter Try.func58, Try.ntmps58
  go_wp2_with (first
    | (go_at_call 69; refine (spec_l3Letter _ _).mono ?_; rw [hl]; rintro e w' ⟨rfl, rfl⟩)
    | (go_at_call 70; refine (spec_l3Digit _ _).mono ?_; rw [hd]; rintro e w' ⟨rfl, rfl⟩))
  go_loop [6] (fun i => ∃ k : Nat, k0 + 1 ≤ k ∧ k ≤ s.size ∧ i = .int .i64 k ∧ wEnd s k = wEnd s (k0 + 1)) (fun i => s.size - (intOf i).toNat)
  case atStart => exact ⟨k0 + 1, by omega, by omega, by go_num, rfl⟩
  case round =>
    obtain ⟨k, hk1, hk, rfl, he⟩ := hrel
    have HE := Lib.hid he; clear he
    by_cases hlt : k < s.size
    · cases hl2 : isLet s[k]
      · cases hd2 : isDig s[k]
        · have HG := Lib.hid ((wEnd_stop hlt (word_of_no hl2 hd2)).symm.trans HE.out)
          go_wp2_with (first
            | (go_at_call 69; refine (spec_l3Letter _ _).mono ?_; (first | rw [hl2] | rw [hl]); rintro e w' ⟨rfl, rfl⟩)
            | (go_at_call 70; refine (spec_l3Digit _ _).mono ?_; rw [hd2]; rintro e w' ⟨rfl, rfl⟩))
          go_ret2
          exact ⟨ret_cut (by rw [HF.out, ← HG.out]), 0, rfl⟩
        · have HG := Lib.hid ((wEnd_in hlt (dig_word hd2)).symm.trans HE.out)
          go_wp2_with (first
            | (go_at_call 69; refine (spec_l3Letter _ _).mono ?_; rw [hl2]; rintro e w' ⟨rfl, rfl⟩)
            | (go_at_call 70; refine (spec_l3Digit _ _).mono ?_; rw [hd2]; rintro e w' ⟨rfl, rfl⟩))
          go_round
          case rel => exact ⟨k + 1, by omega, by omega, by go_num, HG.out⟩
          case measure => simp [intOf]; omega
      · have HG := Lib.hid ((wEnd_in hlt (word_of_let hl2)).symm.trans HE.out)
        go_wp2_with (first
          | (go_at_call 69; refine (spec_l3Letter _ _).mono ?_; rw [hl2]; rintro e w' ⟨rfl, rfl⟩))
        go_round
        case rel => exact ⟨k + 1, by omega, by omega, by go_num, HG.out⟩
        case measure => simp [intOf]; omega
    · have HG := Lib.hid ((wEnd_out (s := s) (k := k) (by omega)).symm.trans HE.out)
      go_wp2_with (first
        | (go_at_call 69; refine (spec_l3Letter _ _).mono ?_; rw [hl]; rintro e w' ⟨rfl, rfl⟩))
      go_ret2
      exact ⟨ret_cut (by rw [HF.out, ← HG.out]), 0, rfl⟩

set_option maxHeartbeats 2000000 in
theorem cut_no (s : ByteArray) (k0 : Nat) (w : World) (hs : s.size ≤ 1000000) (hk0 : k0 < s.size) (hw : isWord s[k0] = false) :
    Calls Try.prog 58 #[.string s, .int .i64 k0] w fun e w' => e = .returned (.tuple #[.int .i64 (sCut s k0).1, .int .i64 (sCut s k0).2]) ∧ ∃ n, w' = w.drewN n := by
  have hl : isLet s[k0] = false := by unfold isWord at hw; rw [Bool.or_eq_false_iff] at hw; exact hw.1
  have hd : isDig s[k0] = false := by unfold isWord at hw; rw [Bool.or_eq_false_iff] at hw; exact hw.2
  by_cases hq : s[k0].toNat = 34
  · have h34 : ((s[k0].toNat : Int) == 34) = true := by simp; omega
    cases hc : tClose s (k0 + 1) with
    | some e =>
      have HF := Lib.hid (sCut_closed hk0 hw hq hc)
      obtain ⟨c1, c2, c3, c4, c5⟩ := tClose_some hc
      have hb := bk_closed hc
      have hB : decide (bk s (k0 + 1) (e - 1) ≠ e - 1) = false := by simp [hb]
      have h5 : ((s[e - 1].toNat : Int) != 34) = false := by simp; omega
      have h6 : ((e : Int) - 1).toNat = e - 1 := by omega
      clear hb hc hq
      go_enter Try.func58, Try.ntmps58
      go_wp2_with (first
        | (go_at_call 69; refine (spec_l3Letter _ _).mono ?_; rw [hl]; rintro e w' ⟨rfl, rfl⟩)
        | (go_at_call 70; refine (spec_l3Digit _ _).mono ?_; rw [hd]; rintro e w' ⟨rfl, rfl⟩)
        | (go_at_call 71; refine (spec_l2Text s k0 _ hs hk0).mono ?_; rw [c3]; rintro e w' ⟨rfl, rfl⟩)
        | (go_at_call 72; refine (spec_l3Back s k0 e _ hs c2 (by omega) hk0).mono ?_; rw [hB]; rintro e w' ⟨rfl, rfl⟩))
      go_ret2
      exact ⟨ret_cut HF.out, 0, rfl⟩
    | none =>
      have HF := Lib.hid (sCut_open hk0 hw hq hc)
      have c3 := tClose_none hc
      have hord : k0 + 1 = s.size ∨ (k0 + 1 < s.size ∧ ((s[s.size - 1].toNat : Int) != 34) = true) ∨ (k0 + 1 < s.size ∧ ((s[s.size - 1].toNat : Int) != 34) = false ∧ decide (bk s (k0 + 1) (s.size - 1) ≠ s.size - 1) = true) := by
        by_cases h1 : k0 + 1 < s.size
        · by_cases h2 : s[s.size - 1].toNat = 34
          · exact .inr (.inr ⟨h1, by simp; omega, by simpa using bk_open hc h1 h2⟩)
          · exact .inr (.inl ⟨h1, by simp; omega⟩)
        · exact .inl (by omega)
      clear hc hq
      have h6 : ((s.size : Int) - 1).toNat = s.size - 1 := by omega
      go_enter Try.func58, Try.ntmps58
      rcases hord with h7 | ⟨h7, h5⟩ | ⟨h7, h5, hB⟩
      all_goals
        go_wp2_with (first
          | (go_at_call 69; refine (spec_l3Letter _ _).mono ?_; rw [hl]; rintro e w' ⟨rfl, rfl⟩)
          | (go_at_call 70; refine (spec_l3Digit _ _).mono ?_; rw [hd]; rintro e w' ⟨rfl, rfl⟩)
          | (go_at_call 71; refine (spec_l2Text s k0 _ hs hk0).mono ?_; rw [c3]; rintro e w' ⟨rfl, rfl⟩)
          | (go_at_call 72; refine (spec_l3Back s k0 s.size _ hs (Nat.le_refl _) (by omega) hk0).mono ?_; rw [hB]; rintro e w' ⟨rfl, rfl⟩))
        go_ret2
        exact ⟨ret_cut HF.out, 0, rfl⟩
  · have h34 : ((s[k0].toNat : Int) == 34) = false := by simp; omega
    have HF := Lib.hid (sCut_mark hk0 hw hq)
    have hml := (mLen_room (s := s) hk0).2
    clear hq
    go_enter Try.func58, Try.ntmps58
    go_wp2_with (first
      | (go_at_call 69; refine (spec_l3Letter _ _).mono ?_; rw [hl]; rintro e w' ⟨rfl, rfl⟩)
      | (go_at_call 70; refine (spec_l3Digit _ _).mono ?_; rw [hd]; rintro e w' ⟨rfl, rfl⟩)
      | (go_at_call 73; refine (spec_l3Mark s k0 _ hs hk0).mono ?_; rintro e w' ⟨rfl, n, rfl⟩))
    go_ret2
    exact ⟨ret_cut (by rw [HF.out]; simp), _, rfl⟩

theorem spec_l3Cut (s : ByteArray) (k0 : Nat) (w : World) (hs : s.size ≤ 1000000) (hk0 : k0 < s.size) :
    Calls Try.prog 58 #[.string s, .int .i64 k0] w fun e w' => e = .returned (.tuple #[.int .i64 (sCut s k0).1, .int .i64 (sCut s k0).2]) ∧ ∃ n, w' = w.drewN n := by
  cases hw : isWord s[k0]
  · exact cut_no s k0 w hs hk0 hw
  · cases h : isLet s[k0]
    · unfold isWord at hw
      rw [h, Bool.false_or] at hw
      exact cut_dig s k0 w hs hk0 h hw
    · exact cut_let s k0 w hs hk0 h

end Go.Proofs.Ytbkmapaieillmaa

/- TokensOf of the model; TokenValid of both. -/
namespace Go.Proofs.Ytbkmapaieillmaa
open Go.RowKit

theorem TokRow.below {base : Nat} {v : Value} {l : List Tok} {w w' : World} (h : TokRow base v l w) (hb : Below w.heap.size w w') : TokRow base v l w' := by
  refine ⟨h.1, ?_⟩
  rcases h.2 with h0 | ⟨g, cap, cur, h1, h2, h3, h4⟩
  · exact .inl h0
  · exact .inr ⟨g, cap, cur, h1, h2, (hb.block g (Array.getElem?_eq_some_iff.1 h3).1).trans h3, h4⟩
theorem TokRow.empty (w : World) : TokRow w.heap.size (.slice (some ⟨w.heap.size, 0, none⟩) 0 0) [] (w.alloc (.cells #[] 25)) :=
  ⟨rfl, .inr ⟨w.heap.size, 0, #[], rfl, Nat.le_refl _, by show (w.heap.push _)[w.heap.size]? = _; simp, Nat.le_refl _, by simp, rfl, rfl⟩⟩
theorem cutGood {s : ByteArray} {k e : Nat} (hk : k < s.size) (he : cutEnd s k = e) : sCut s k = (cutKind s[k], (e : Int)) ∧ 1 ≤ cutKind s[k] ∧ cutKind s[k] ≤ 4 ∧ (cutKind s[k] ≤ 2 → (e : Int) - (k : Int) ≤ 12) := by
  have h := sCut_good hk (by omega)
  rw [he] at h
  obtain ⟨h1, h2⟩ := h
  have h3 := cutKind_in s[k]
  refine ⟨h2, h3.1, h3.2, fun h => ?_⟩
  rw [h2] at h1
  unfold SBad at h1
  simp only at h1
  omega
theorem cutBad {s : ByteArray} {k : Nat} (hk : k < s.size) (h : cutEnd s k < 0) : ∃ a b : Int, sCut s k = (a, b) ∧ (b = k ∨ b ≠ k ∧ a = 0 ∨ b ≠ k ∧ a = 1 ∧ 12 < b - k ∨ b ≠ k ∧ a = 2 ∧ 12 < b - k) := by
  have h1 := sCut_bad hk h
  unfold SBad at h1
  exact ⟨(sCut s k).1, (sCut s k).2, rfl, by omega⟩
theorem sCut_room {s : ByteArray} {k : Nat} (hk : k < s.size) : 0 ≤ (sCut s k).2 ∧ (sCut s k).2 ≤ 1000000 + s.size := by
  cases hw : isWord s[k]
  · by_cases hq : s[k].toNat = 34
    · cases hc : tClose s (k + 1) with
      | none => rw [sCut_open hk hw hq hc]; constructor <;> simp only <;> omega
      | some e => have := tClose_some hc; rw [sCut_closed hk hw hq hc]; constructor <;> simp only <;> omega
    · have := mLen_room hk; rw [sCut_mark hk hw hq]; constructor <;> simp only <;> omega
  · have := (wEnd_bounds s (k + 1)).2 (by omega)
    rw [sCut_word hk hw]; constructor <;> simp only <;> omega

/-- .. as a row of the call's own. -/
def TokRowed (s : ByteArray) (w : World) (e : Ending) (w' : World) : Prop :=
  ∃ v, e = .returned (.tuple #[v, .bool (tokRes s).2]) ∧ TokRow w.heap.size v (tokRes s).1 w' ∧ Fresh s.size (tokRes s).1 ∧ Below w.heap.size w w'
theorem TokRow.emptyAt {base : Nat} (w : World) (h : base ≤ w.heap.size) : TokRow base (.slice (some ⟨w.heap.size, 0, none⟩) 0 0) [] (w.alloc (.cells #[] 25)) :=
  ⟨rfl, .inr ⟨w.heap.size, 0, #[], rfl, h, by show (w.heap.push _)[w.heap.size]? = _; simp, Nat.le_refl _, by simp, rfl, rfl⟩⟩
theorem ret_no2 {s : ByteArray} (h : tokRes s = ([], false)) {w W : World} (hb : Below w.heap.size w W) (hs : w.heap.size ≤ W.heap.size) :
    TokRowed s w (.returned (.tuple #[.slice (some ⟨W.heap.size, 0, none⟩) 0 0, .bool false])) (W.alloc (.cells #[] 25)) := by
  unfold TokRowed; rw [h]; exact ⟨_, rfl, TokRow.emptyAt W hs, Fresh.nil _, hb.alloc hs _⟩
theorem ret_toks2 {v : Value} {l : List Tok} {s : ByteArray} (h : tokRes s = (l, true)) {w w' : World} (hr : TokRow w.heap.size v l w') (hf : Fresh s.size l) (hb : Below w.heap.size w w') :
    TokRowed s w (.returned (.tuple #[v, .bool true])) w' := by
  unfold TokRowed; rw [h]; exact ⟨v, rfl, hr, hf, hb⟩

set_option maxHeartbeats 8000000 in
theorem spec_TokensOf_row (s : ByteArray) (w : World) (hs : s.size ≤ maxLen) :
    Calls Try.prog 35 #[.string s] w (TokRowed s w) := by
  have hm := hs
  unfold maxLen at hm
  cases h0 : lineOk s
  · have HF := Lib.hid (tokRes_bad h0)
    go_enter Try.func35, Try.ntmps35
    go_wp2_with (go_at_call 57; refine (spec_LineValid _ _ hs).mono ?_; rw [h0]; rintro e w' ⟨rfl, rfl⟩)
    go_ret2
    exact ret_no2 HF.out (Below.refl _ _) (Nat.le_refl _)
  have hsz := lineOk_size' h0
  have H0 := Lib.hid h0
  go_enter Try.func35, Try.ntmps35
  go_wp2_with (go_at_call 57; refine (spec_LineValid _ _ hs).mono ?_; rw [h0]; rintro e w' ⟨rfl, rfl⟩)
  clear h0
  go_loopw [4, 5, 6] (fun v sp i wr => ∃ (k : Nat) (b : Bool) (out : List Tok), k ≤ s.size ∧ i = .int .i64 k ∧ sp = .bool b ∧ AtT s k b out ∧ Fresh s.size out ∧ TokRow w.heap.size v out wr ∧ Below w.heap.size w wr) (fun _ _ i _ => s.size - (intOf i).toNat)
  case atStart => exact ⟨0, false, [], by omega, rfl, rfl, AtT.zero s, Fresh.nil _, TokRow.empty _, (Below.refl _ _).alloc (Nat.le_refl _) _⟩
  case round =>
    obtain ⟨k, b, out, hk, rfl, rfl, hat, hfr, hown, hbel⟩ := hrel
    have ho : out.length ≤ 60 := hat.2
    have hbs := hbel.size
    by_cases hlt : k < s.size
    · by_cases h32 : s[k].toNat = 32
      · have HN := Lib.hid (hat.space hlt h32)
        have h32' : ((s[k].toNat : Int) == 32) = true := by simp; omega
        clear hat h32
        go_wp2
        go_roundw
        case rel => exact ⟨k + 1, true, out, by omega, by go_num, rfl, HN.out, hfr, hown, hbel⟩
        case measure => simp [intOf]; omega
      · have h32' : ((s[k].toNat : Int) == 32) = false := by simp; omega
        have hro := sCut_room hlt
        rcases cutEnd_ge s k with hneg | ⟨e, he, hke, hes⟩
        · have HF := Lib.hid (tokRes_none (hat.bad hlt h32 (.inl hneg)))
          obtain ⟨a, b2, hab, hways⟩ := cutBad hlt hneg
          rw [hab] at hro
          have HC : Hid (∀ W, Calls Try.prog 58 #[.string s, .int .i64 k] W fun e w' => e = .returned (.tuple #[.int .i64 a, .int .i64 b2]) ∧ ∃ n, w' = W.drewN n) := fun W => by have := spec_l3Cut s k W (by omega) hlt; rw [hab] at this; exact this
          clear hat h32 hab
          obtain ⟨ho1, ho2⟩ := hro
          simp only at ho1 ho2
          rcases hways with h1 | ⟨h1, h2⟩ | ⟨h1, h2, h3⟩ | ⟨h1, h2, h3⟩
          · subst h1
            go_wp2_with (go_at_call 58; refine (HC.out _).mono ?_; rintro e w' ⟨rfl, n, rfl⟩)
            go_ret2
            exact ret_no2 HF.out (belowN hbel n) hbs
          all_goals
            subst h2
            have h1' : (b2 == (k : Int)) = false := by simp; omega
            clear h1
            go_wp2_with (go_at_call 58; refine (HC.out _).mono ?_; rintro e w' ⟨rfl, n, rfl⟩)
            go_ret2
            exact ret_no2 HF.out (belowN hbel n) hbs
        · obtain ⟨a, cap, rfl, hcm⟩ := hown.slice
          obtain ⟨hab, hk1, hk2, hk3⟩ := cutGood hlt he
          have HC : Hid (∀ W, Calls Try.prog 58 #[.string s, .int .i64 k] W fun r w' => r = .returned (.tuple #[.int .i64 (cutKind s[k]), .int .i64 e]) ∧ ∃ n, w' = W.drewN n) := fun W => by have := spec_l3Cut s k W (by omega) hlt; rw [hab] at this; exact this
          have hek : ((e : Int) == (k : Int)) = false := by simp; omega
          clear hro hab
          by_cases h60 : out.length = 60
          · have HF := Lib.hid (tokRes_none (hat.bad hlt h32 (.inr h60)))
            have h60' : ((out.length : Int) == 60) = true := by simp; omega
            clear hat h32 h60
            generalize cutKind s[k] = K at *
            have hK : (K = 1 ∧ (e : Int) - (k : Int) ≤ 12) ∨ (K = 2 ∧ (e : Int) - (k : Int) ≤ 12) ∨ (K = 3 ∧ k < e) ∨ (K = 4 ∧ k < e) := by omega
            clear hk3
            rcases hK with ⟨rfl, hk5⟩ | ⟨rfl, hk5⟩ | ⟨rfl, hk5⟩ | ⟨rfl, hk5⟩
            all_goals
              go_wp2_with (go_at_call 58; refine (HC.out _).mono ?_; rintro e w' ⟨rfl, n, rfl⟩)
              go_ret2
              exact ret_no2 HF.out (belowN hbel n) hbs
          · have HN := Lib.hid (hat.tok hlt h32 he h60)
            have HR := Lib.hid (hfr.snoc (k := k) (e := e) (sp := b) (c := s[k]) (Nat.le_refl s.size))
            have h60' : ((out.length : Int) == 60) = false := by simp; omega
            have hsl2 := fun W => (run_cut s (k : Int) (e : Int) k e rfl rfl (by omega) (by omega) W)
            clear hat h32 h60
            generalize cutKind s[k] = K at *
            have hK : (K = 1 ∧ (e : Int) - (k : Int) ≤ 12) ∨ (K = 2 ∧ (e : Int) - (k : Int) ≤ 12) ∨ (K = 3 ∧ k < e) ∨ (K = 4 ∧ k < e) := by omega
            clear hk3
            rcases hK with ⟨rfl, hk5⟩ | ⟨rfl, hk5⟩ | ⟨rfl, hk5⟩ | ⟨rfl, hk5⟩
            all_goals
              go_wp2_with (first
                | (go_at_call 58; refine (HC.out _).mono ?_; rintro e w' ⟨rfl, n, rfl⟩)
                | (at_builtin; refine wp_append_tok rfl (.tmp 57) (.tmp 65) rfl w.heap.size _ out _ _ _ rfl (hown.drew _) rfl (by omega) hbs ?_; intro v1 w1 hown1 hg1))
              have hbel1 := (belowN hbel _).grown hg1 hbs hown.mine
              go_roundw
              case rel => exact ⟨e, false, _, hes, rfl, rfl, HN.out, HR.out, hown1, hbel1⟩
              case measure => simp [intOf]; omega
    · have HF := Lib.hid (tokRes_some H0.out (hat.done (by omega)))
      clear hat
      go_wp2
      go_ret2
      exact ret_toks2 HF.out hown hfr hbel

theorem spec_TokensOf (s : ByteArray) (w : World) (hs : s.size ≤ maxLen) :
    Calls Try.prog 35 #[.string s] w (TokMade (tokRes s) w) := by
  refine (spec_TokensOf_row s w hs).mono ?_
  rintro e w' ⟨v, rfl, h1, h2, h3⟩
  have hsz : (tokRes s).1 = [] ∨ s.size ≤ 200 := by
    cases h0 : lineOk s
    · left; rw [tokRes_bad h0]
    · right; exact lineOk_size' h0
  rcases hsz with h | h
  · rw [h] at h1 h2
    obtain ⟨fp, a, b, _⟩ := own_toks (B := 0) h1 (Fresh.nil _) (by omega)
    exact ⟨v, fp, rfl, by rw [h]; exact a, b, h3⟩
  · obtain ⟨fp, a, b, _⟩ := own_toks h1 h2 (by omega)
    exact ⟨v, fp, rfl, a, b, h3⟩

end Go.Proofs.Ytbkmapaieillmaa

/- The drawing of tokens. -/
namespace Go.Proofs.Ytbkmapaieillmaa
open Go.RowKit

/-- A drawn token: small. -/
def okTok (t : Tok) : Prop := t.text.size ≤ 1000 ∧ 0 ≤ t.kind ∧ t.kind ≤ 4 ∧ t.hidden.length ≤ 3
def elemTok (t : Tok) : Elem Tok := ⟨freshCells t, t, []⟩
theorem toks_rowE {base : Nat} {v : Value} {l : List Tok} {w : World} {B : Nat} (h : TokRow base v l w) (hf : Fresh B l) (hB : B ≤ 1000) :
    RowE sTok base 25 v (l.map elemTok) w ∧ ∀ x ∈ l.map elemTok, okTok x.d := by
  have hL : (l.map elemTok).flatMap (·.cells) = l.flatMap freshCells := by rw [List.flatMap_map]; rfl
  have hx : ∀ x ∈ l.map elemTok, ∃ t ∈ l, x = elemTok t := fun x hx => by
    obtain ⟨t, ht, rfl⟩ := List.mem_map.1 hx
    exact ⟨t, ht, rfl⟩
  refine ⟨⟨by rw [hL, List.length_map]; exact h, fun x hm => ?_, fun x hm => ?_, fun x hm b hb => ?_, fun x hm b hb => ?_⟩, fun x hm => ?_⟩ <;> obtain ⟨t, ht, rfl⟩ := hx x hm
  · rfl
  · obtain ⟨a1, a2, a3, a4⟩ := hf t ht
    have b1 : okInt t.kind := ⟨by omega, by omega⟩
    have b2 : okStr t.text := by unfold okStr maxLen; omega
    have b3 : (sSlice sStr).R w [.slice none 0 0] t.hidden [] := by rw [a2]; exact slice_empty sStr w none 0 (by simp)
    exact ⟨_, rfl, b1, b2, b3⟩
  · simp [elemTok] at hb
  · simp [elemTok] at hb
  · obtain ⟨a1, a2, a3, a4⟩ := hf t ht
    exact ⟨Nat.le_trans a1 hB, by show 0 ≤ t.kind; omega, a4, by show t.hidden.length ≤ 3; rw [a2]; simp⟩

/-- The lists of names out of which a token's hidden ones are drawn. -/
abbrev hidW (w : World) : World :=
  (((((w.alloc (.cells #[.string ⟨#[97]⟩] 9)).alloc (.cells #[.string ⟨#[97]⟩, .string ⟨#[98]⟩] 9)).alloc (.cells #[.string ⟨#[102]⟩] 9)).alloc (.cells #[.string ⟨#[97]⟩, .string ⟨#[102]⟩, .string ⟨#[103]⟩] 9)).alloc
    (.cells #[.slice (some ⟨w.heap.size, 0, none⟩) 1 1, .slice (some ⟨w.heap.size + 1, 0, none⟩) 2 2, .slice (some ⟨w.heap.size + 1 + 1, 0, none⟩) 1 1, .slice (some ⟨w.heap.size + 1 + 1 + 1, 0, none⟩) 3 3] 23))
def hidL (n : Nat) : List Obj := [.cells #[.string ⟨#[97]⟩] 9, .cells #[.string ⟨#[97]⟩, .string ⟨#[98]⟩] 9, .cells #[.string ⟨#[102]⟩] 9, .cells #[.string ⟨#[97]⟩, .string ⟨#[102]⟩, .string ⟨#[103]⟩] 9,
  .cells #[.slice (some ⟨n, 0, none⟩) 1 1, .slice (some ⟨n + 1, 0, none⟩) 2 2, .slice (some ⟨n + 1 + 1, 0, none⟩) 1 1, .slice (some ⟨n + 1 + 1 + 1, 0, none⟩) 3 3] 23]
theorem hidW_eq (w : World) : hidW w = allocs w (hidL w.heap.size) := rfl
theorem hidW_below (w : World) : Below w.heap.size w (hidW w) := by rw [hidW_eq]; exact allocs_below _ _ (Below.refl _ _) (Nat.le_refl _)
theorem hidW_blk (w : World) (j : Nat) (hj : j < 5) : (hidW w).heap[w.heap.size + j]? = some ((hidL w.heap.size)[j]'hj) := by rw [hidW_eq]; exact allocs_blk w (hidL w.heap.size) j hj
theorem hidW_size (w : World) : (hidW w).heap.size = w.heap.size + 5 := by rw [hidW_eq, allocs_size]; rfl
/-- A literal row of texts. -/
theorem lit_strs {w : World} {b : Nat} {l : List ByteArray} {t : TypeId} {fr : Nat × Nat} (h : w.heap[b]? = some (.cells (l.map Value.string).toArray t fr)) (hs : ∀ s ∈ l, s.size ≤ 1000) (h0 : 0 < l.length) (hl : l.length ≤ 1000) (n : Nat) (hn : l.length = n) :
    (sSlice sStr).R w [.slice (some ⟨b, 0, none⟩) n n] l [b] := by
  subst hn
  refine ⟨_, _, rfl, Nat.le_refl _, by unfold maxLen; omega, .inr ⟨h0, b, 0, fun _ => [], rfl, by simp, (Array.getElem?_eq_some_iff.1 h).1, fun i hi => ⟨[.string l[i]], ⟨rfl, fun j hj => ?_⟩, rfl, ?_, rfl⟩⟩⟩
  · have hj0 : j = 0 := by simp [sStr, sFlat] at hj; omega
    subst hj0
    have := cell_of_row w b i _ _ _ h
    simp only [sStr, sFlat, Nat.mul_one, Nat.zero_add, Nat.add_zero] at *
    rw [this]; simp [List.getElem?_eq_getElem hi]
  · have := hs _ (List.getElem_mem hi)
    unfold okStr maxLen; omega
theorem hid_lits {w w3 : World} {rb : Nat} {r : Int} (hr : rb < w.heap.size) (hK : Kept [rb] (hidW w) w3) (h0 : 0 ≤ r) (h1 : r < 4) :
    ∃ b n l, w3.cell? ⟨w.heap.size + 1 + 1 + 1 + 1, r.toNat, none⟩ = some (.slice (some ⟨b, 0, none⟩) n n) ∧ (sSlice sStr).R w3 [.slice (some ⟨b, 0, none⟩) n n] l [b] ∧ l.length ≤ 3 ∧ w.heap.size ≤ b ∧ ∃ cur fr, w3.heap[b]? = some (.cells cur 9 fr) := by
  have gs := hidW_size w
  have g0 := hidW_blk w 0 (by omega)
  have g1 := hidW_blk w 1 (by omega)
  have g2 := hidW_blk w 2 (by omega)
  have g3 := hidW_blk w 3 (by omega)
  have g4 := hidW_blk w 4 (by omega)
  have k0 := (hK.block _ (by omega) (by simp; omega)).trans g0
  have k1 := (hK.block _ (by omega) (by simp; omega)).trans g1
  have k2 := (hK.block _ (by omega) (by simp; omega)).trans g2
  have k3 := (hK.block _ (by omega) (by simp; omega)).trans g3
  have k4 := (hK.block _ (by omega) (by simp; omega)).trans g4
  have hc := fun j => cell_of_row w3 (w.heap.size + 1 + 1 + 1 + 1) j _ _ _ k4
  have hr4 : r = 0 ∨ r = 1 ∨ r = 2 ∨ r = 3 := by omega
  rcases hr4 with rfl | rfl | rfl | rfl
  · exact ⟨_, 1, [⟨#[97]⟩], hc 0, lit_strs (l := [⟨#[97]⟩]) k0 (by decide) (by decide) (by decide) 1 rfl, by decide, by omega, _, _, k0⟩
  · exact ⟨_, 2, [⟨#[97]⟩, ⟨#[98]⟩], hc 1, lit_strs (l := [⟨#[97]⟩, ⟨#[98]⟩]) k1 (by decide) (by decide) (by decide) 2 rfl, by decide, by omega, _, _, k1⟩
  · exact ⟨_, 1, [⟨#[102]⟩], hc 2, lit_strs (l := [⟨#[102]⟩]) k2 (by decide) (by decide) (by decide) 1 rfl, by decide, by omega, _, _, k2⟩
  · exact ⟨_, 3, [⟨#[97]⟩, ⟨#[102]⟩, ⟨#[103]⟩], hc 3, lit_strs (l := [⟨#[97]⟩, ⟨#[102]⟩, ⟨#[103]⟩]) k3 (by decide) (by decide) (by decide) 3 rfl, by decide, by omega, _, _, k3⟩

def tokE (k : Int) (s : ByteArray) (ao : Option Addr) (m : Nat) (l : List ByteArray) (fp : List Nat) : Elem Tok := ⟨[.int .i64 k, .string s, .bool false, .slice ao m m], ⟨k, s, false, l⟩, fp⟩
/-- The tokens that are not valid, out of which one is drawn. -/
def badE (n : Nat) : List (Elem Tok) := [tokE 0 ⟨#[]⟩ none 0 [] [], tokE 1 ⟨#[49, 97]⟩ none 0 [] [], tokE 1 ⟨#[97, 32, 98]⟩ none 0 [] [], tokE 2 ⟨#[97]⟩ none 0 [] [], tokE 4 ⟨#[64]⟩ none 0 [] [], tokE 3 ⟨#[34, 97]⟩ none 0 [] [],
  tokE 1 ⟨#[97]⟩ (some ⟨n, 0, none⟩) 2 [⟨#[98]⟩, ⟨#[97]⟩] [n], tokE 1 ⟨#[97]⟩ (some ⟨n + 1, 0, none⟩) 1 [⟨#[49]⟩] [n + 1]]
def badL (n : Nat) : List Obj := [.cells #[.string ⟨#[98]⟩, .string ⟨#[97]⟩] 9, .cells #[.string ⟨#[49]⟩] 9, .cells ((badE n).flatMap (·.cells)).toArray 25]
abbrev badW (w : World) : World :=
  ((w.alloc (.cells #[.string ⟨#[98]⟩, .string ⟨#[97]⟩] 9)).alloc (.cells #[.string ⟨#[49]⟩] 9)).alloc
    (.cells #[.int .i64 0, .string ⟨#[]⟩, .bool false, .slice none 0 0, .int .i64 1, .string ⟨#[49, 97]⟩, .bool false, .slice none 0 0, .int .i64 1, .string ⟨#[97, 32, 98]⟩, .bool false, .slice none 0 0, .int .i64 2, .string ⟨#[97]⟩, .bool false, .slice none 0 0,
      .int .i64 4, .string ⟨#[64]⟩, .bool false, .slice none 0 0, .int .i64 3, .string ⟨#[34, 97]⟩, .bool false, .slice none 0 0, .int .i64 1, .string ⟨#[97]⟩, .bool false, .slice (some ⟨w.heap.size, 0, none⟩) 2 2, .int .i64 1, .string ⟨#[97]⟩, .bool false, .slice (some ⟨w.heap.size + 1, 0, none⟩) 1 1] 25)
theorem badW_eq (w : World) : badW w = allocs w (badL w.heap.size) := rfl
theorem badW_below (w : World) : Below w.heap.size w (badW w) := by rw [badW_eq]; exact allocs_below _ _ (Below.refl _ _) (Nat.le_refl _)
theorem badW_blk (w : World) (j : Nat) (hj : j < 3) : (badW w).heap[w.heap.size + j]? = some ((badL w.heap.size)[j]'hj) := by rw [badW_eq]; exact allocs_blk w (badL w.heap.size) j hj
theorem badW_size (w : World) : (badW w).heap.size = w.heap.size + 3 := by rw [badW_eq, allocs_size]; rfl
theorem badE_len (n : Nat) : ∀ x ∈ badE n, x.cells.length = 4 := by
  intro x hx
  simp only [badE, List.mem_cons, List.not_mem_nil, or_false] at hx
  rcases hx with rfl | rfl | rfl | rfl | rfl | rfl | rfl | rfl <;> rfl
theorem badE_form (n : Nat) : ∀ x ∈ badE n, okTok x.d ∧ ∃ k s ao m l fp, x = tokE k s ao m l fp ∧ (fp = [] ∧ l = [] ∧ ao = none ∧ m = 0 ∨ fp = [n] ∧ l = [⟨#[98]⟩, ⟨#[97]⟩] ∧ ao = some ⟨n, 0, none⟩ ∧ m = 2 ∨ fp = [n + 1] ∧ l = [⟨#[49]⟩] ∧ ao = some ⟨n + 1, 0, none⟩ ∧ m = 1) := by
  intro x hx
  simp only [badE, List.mem_cons, List.not_mem_nil, or_false] at hx
  have ok : ∀ (k : Int) (s : ByteArray) (l : List ByteArray), s.size ≤ 1000 → 0 ≤ k → k ≤ 4 → l.length ≤ 3 → okTok ⟨k, s, false, l⟩ := fun k s l a b c d => ⟨a, b, c, d⟩
  rcases hx with rfl | rfl | rfl | rfl | rfl | rfl | rfl | rfl
  · exact ⟨ok _ _ _ (by decide) (by decide) (by decide) (by decide), _, _, _, _, _, _, rfl, .inl ⟨rfl, rfl, rfl, rfl⟩⟩
  · exact ⟨ok _ _ _ (by decide) (by decide) (by decide) (by decide), _, _, _, _, _, _, rfl, .inl ⟨rfl, rfl, rfl, rfl⟩⟩
  · exact ⟨ok _ _ _ (by decide) (by decide) (by decide) (by decide), _, _, _, _, _, _, rfl, .inl ⟨rfl, rfl, rfl, rfl⟩⟩
  · exact ⟨ok _ _ _ (by decide) (by decide) (by decide) (by decide), _, _, _, _, _, _, rfl, .inl ⟨rfl, rfl, rfl, rfl⟩⟩
  · exact ⟨ok _ _ _ (by decide) (by decide) (by decide) (by decide), _, _, _, _, _, _, rfl, .inl ⟨rfl, rfl, rfl, rfl⟩⟩
  · exact ⟨ok _ _ _ (by decide) (by decide) (by decide) (by decide), _, _, _, _, _, _, rfl, .inl ⟨rfl, rfl, rfl, rfl⟩⟩
  · exact ⟨ok _ _ _ (by decide) (by decide) (by decide) (by decide), _, _, _, _, _, _, rfl, .inr (.inl ⟨rfl, rfl, rfl, rfl⟩)⟩
  · exact ⟨ok _ _ _ (by decide) (by decide) (by decide) (by decide), _, _, _, _, _, _, rfl, .inr (.inr ⟨rfl, rfl, rfl, rfl⟩)⟩
/-- One of them, picked. -/
def PickedTok (B g : Nat) (i : Nat) (w : World) : Prop :=
  ∃ (k : Int) (s : ByteArray) (ao : Option Addr) (m : Nat) (l : List ByteArray) (fp : List Nat),
    w.cell? ⟨g, i * 4, none⟩ = some (.int .i64 k) ∧ w.cell? ⟨g, i * 4 + 1, none⟩ = some (.string s) ∧ w.cell? ⟨g, i * 4 + 2, none⟩ = some (.bool false) ∧ w.cell? ⟨g, i * 4 + 3, none⟩ = some (.slice ao m m) ∧
    sTok.R w [.int .i64 k, .string s, .bool false, .slice ao m m] ⟨k, s, false, l⟩ fp ∧ okTok ⟨k, s, false, l⟩ ∧ (∀ b ∈ fp, B ≤ b) ∧ (∀ b ∈ fp, ∃ cur t fr, w.heap[b]? = some (.cells cur t fr) ∧ t ≠ 25)
theorem bad_pick {w w4 : World} {rb : Nat} {r : Int} (hr : rb < w.heap.size) (hK : Kept [rb] (badW w) w4) (h0 : 0 ≤ r) (h1 : r < 8) : PickedTok w.heap.size (w.heap.size + 1 + 1) r.toNat w4 := by
  have gs := badW_size w
  have k0 := (hK.block _ (by omega) (by simp; omega)).trans (badW_blk w 0 (by omega))
  have k1 := (hK.block _ (by omega) (by simp; omega)).trans (badW_blk w 1 (by omega))
  have k2 := (hK.block _ (by omega) (by simp; omega)).trans (badW_blk w 2 (by omega))
  have hr8 : r.toNat < (badE w.heap.size).length := by show _ < 8; omega
  have hmem := List.getElem_mem hr8
  obtain ⟨hok, k, s, ao, m, l, fp, hx, hways⟩ := badE_form _ _ hmem
  have hc : ∀ j, j < 4 → w4.cell? ⟨w.heap.size + 1 + 1, r.toNat * 4 + j, none⟩ = (tokE k s ao m l fp).cells[j]? := fun j hj => by
    rw [cell_of_row w4 (w.heap.size + 1 + 1) (r.toNat * 4 + j) _ _ _ k2, List.getElem?_toArray, flatMap_at (f := Elem.cells) (badE_len _) hr8 hj, hx]
  rw [hx] at hok
  obtain ⟨o1, o2, o3, o4⟩ := hok
  have b1 : okInt k := ⟨by have : 0 ≤ k := o2; omega, by have : k ≤ 4 := o3; omega⟩
  have b2 : okStr s := by unfold okStr maxLen; have : s.size ≤ 1000 := o1; omega
  refine ⟨k, s, ao, m, l, fp, hc 0 (by omega), hc 1 (by omega), hc 2 (by omega), hc 3 (by omega), ?_, ⟨o1, o2, o3, o4⟩, ?_, ?_⟩
  · rcases hways with ⟨rfl, rfl, rfl, rfl⟩ | ⟨rfl, rfl, rfl, rfl⟩ | ⟨rfl, rfl, rfl, rfl⟩
    · exact ⟨_, rfl, b1, b2, slice_empty sStr _ _ _ (by simp)⟩
    · exact ⟨_, rfl, b1, b2, lit_strs (l := [⟨#[98]⟩, ⟨#[97]⟩]) k0 (by decide) (by decide) (by decide) 2 rfl⟩
    · exact ⟨_, rfl, b1, b2, lit_strs (l := [⟨#[49]⟩]) k1 (by decide) (by decide) (by decide) 1 rfl⟩
  · intro b hb
    rcases hways with ⟨rfl, _⟩ | ⟨rfl, _⟩ | ⟨rfl, _⟩ <;> simp at hb <;> omega
  · intro b hb
    rcases hways with ⟨rfl, _⟩ | ⟨rfl, _⟩ | ⟨rfl, _⟩ <;> simp at hb <;> subst hb
    · exact ⟨_, _, _, k0, by decide⟩
    · exact ⟨_, _, _, k1, by decide⟩

/-- append of one token out of its literal's own block. -/
theorem wp_append_tokE {w : World} {ops : Array Oper} {rest : List Oper} {o : Oper} {a : Act} {Q : Exit → Act → World → Prop} (hg : o.guard = none) (s y : Operand)
    (ho : o.op = .call { callee := .builtin .append, args := #[s, y], argTypes := #[31, 31] })
    (base : Nat) (v : Value) (L : List (Elem Tok)) (hs : a.eval s = v) (hown : RowE sTok base 25 v L w) (k : Int) (x : ByteArray) (b : Bool) (ao : Option Addr) (m c : Nat) (l : List ByteArray) (fp : List Nat)
    (hy : a.eval y = .slice (some ⟨w.heap.size, 0, none⟩) 1 1) (hR : sTok.R w [.int .i64 k, .string x, .bool b, .slice ao m c] ⟨k, x, b, l⟩ fp) (hlo : ∀ b ∈ fp, base ≤ b) (hty : ∀ b ∈ fp, ∃ cur t fr, w.heap[b]? = some (.cells cur t fr) ∧ t ≠ 25)
    (h63 : L.length ≤ 2000000) (hbase : base ≤ w.heap.size)
    (h : ∀ v' w', RowE sTok base 25 v' (L ++ [⟨[.int .i64 k, .string x, .bool b, .slice ao m c], ⟨k, x, b, l⟩, fp⟩]) w' → w.grownBy w' v.ownBlock → wpList Try.prog ops Q rest (a.put o.dst v') w') :
    wpList Try.prog ops Q (o :: rest) a (w.alloc (.cells #[.int .i64 k, .string x, .bool b, .slice ao m c] 25)) := by
  have hb := alloc_below' w (.cells #[.int .i64 k, .string x, .bool b, .slice ao m c] 25)
  refine wp_append_rowE (S := sTok) ti_tok rfl (by decide) _ (X := [⟨[.int .i64 k, .string x, .bool b, .slice ao m c], ⟨k, x, b, l⟩, fp⟩]) hg s y ho base v hs (hown.below hb) w.heap.size 1 1 hy rfl ?_ ?_ ?_ ?_ ?_ ?_ (by unfold maxLen; omega) (by omega) (by simp; omega) fun v' w' a b => h v' w' a (grown_trans (World.grownBy_alloc _ _ _) b)
  · intro x hx; obtain rfl := List.mem_singleton.1 hx; rfl
  · intro x hx; obtain rfl := List.mem_singleton.1 hx; simp [Value.oneCell']
  · intro j u hj
    rw [World.cell?_alloc_at _ _ _ _ rfl]
    simpa using hj
  · intro x hx; obtain rfl := List.mem_singleton.1 hx; exact sTok.below hR hb
  · intro x hx; obtain rfl := List.mem_singleton.1 hx; exact hlo
  · intro x hx b' hb'
    obtain rfl := List.mem_singleton.1 hx
    obtain ⟨cur, t, fr, h1, h2⟩ := hty b' hb'
    exact ⟨cur, t, fr, (hb.block b' (Array.getElem?_eq_some_iff.1 h1).1).trans h1, h2⟩

theorem okApp {L : List (Elem Tok)} {x : Elem Tok} (h : ∀ x ∈ L, okTok x.d) (hx : okTok x.d) : ∀ y ∈ L ++ [x], okTok y.d := fun y hy => by
  rcases List.mem_append.1 hy with hy | hy
  · exact h y hy
  · obtain rfl := List.mem_singleton.1 hy; exact hx
theorem okApp2 {L : List (Elem Tok)} {x x' : Elem Tok} (h : ∀ x ∈ L, okTok x.d) (hx : okTok x.d) (hx' : okTok x'.d) : ∀ y ∈ L ++ [x, x'], okTok y.d := fun y hy => by
  rcases List.mem_append.1 hy with hy | hy
  · exact h y hy
  · simp only [List.mem_cons, List.not_mem_nil, or_false] at hy
    rcases hy with rfl | rfl
    · exact hx
    · exact hx'
theorem grownRd {rb p B : Nat} {w w' : World} {ob : Option Nat} (h : Rd w rb p) (hg : w.grownBy w' ob) (hr : rb < B) (ho : ∀ b, ob = some b → B ≤ b) : Rd w' rb p := by
  obtain ⟨⟨a, l, cap, fp, h2, h3, h4, h5⟩, h6⟩ := h
  have hlt := (Array.getElem?_eq_some_iff.1 h2).1
  have hblk : ∀ b, b ≤ rb → w'.heap[b]? = w.heap[b]? := fun b hb => hg.block b (by omega) (by intro he; have := ho b he.symm; omega)
  exact ⟨⟨a, l, cap, fp, (hblk rb (Nat.le_refl _)).trans h2, (sSlice sByte).frame (fun b hb => hblk b (Nat.le_of_lt (h4 b hb))) h3, h4, h5⟩, h6⟩
theorem grownKept {rb : Nat} {w0 w w' : World} {ob : Option Nat} (h : Kept [rb] w0 w) (hg : w.grownBy w' ob) (ho : ∀ b, ob = some b → w0.heap.size ≤ b) : Kept [rb] w0 w' :=
  ⟨hg.os.trans h.os, hg.tape.trans h.tape, hg.output.trans h.output, Nat.le_trans h.size hg.size, fun k hk hn => (hg.block k (Nat.lt_of_lt_of_le hk h.size) (by intro he; have := ho k he.symm; omega)).trans (h.block k hk hn)⟩
theorem rdSet {rb g p : Nat} {w : World} (h : Rd w rb p) (hr : rb < g) (o : Nat) (u : Value) : Rd (w.setCell ⟨g, o, none⟩ u) rb p :=
  h.kept ((Kept.refl [g] w).setCell (p := ⟨g, o, none⟩) (by simp) u) (fun b hb => by have e : b = g := (by simpa using hb); omega)
theorem keptSet {rb g : Nat} {w w' : World} (hk : Kept [rb] w w') (hg : w.heap.size ≤ g) (u : Value) (o : Nat) : Kept [rb] w (w'.setCell ⟨g, o, none⟩ u) :=
  ⟨hk.os, hk.tape, hk.output, by simp [World.setCell]; exact hk.size, fun k h1 h2 => (Below.heap_setCell _ _ _ _ (by show k ≠ g; omega)).trans (hk.block k h1 h2)⟩
/-- Tokens are drawn, by at most n picks. -/
def DrawnToks (rb p n : Nat) (least : Nat) (w : World) (e : Ending) (w' : World) : Prop :=
  ∃ (v : Value) (L : List (Elem Tok)) (q : Nat), e = .returned v ∧ RowE sTok w.heap.size 25 v L w' ∧ (∀ x ∈ L, okTok x.d) ∧ least ≤ L.length ∧ L.length ≤ 61 ∧ q ≤ p + n ∧ Rd w' rb q ∧ Kept [rb] w w'

/-- .. 'odd' of 1 is true. -/
def OddT (rb p : Nat) (n : Int) (w : World) (e : Ending) (w' : World) : Prop := ∃ b : Bool, ∃ q : Nat, e = .returned (.bool b) ∧ Hid (n = 1 → b = true) ∧ p ≤ q ∧ q ≤ p + 1 ∧ Rd w' rb q ∧ Kept [rb] w w'
set_option maxHeartbeats 1000000 in
theorem oddT (rb p : Nat) (n : Int) (w : World) (H : Rd w rb p) (hp : p < 1000000) (hn : n ≤ 1000000) (hn0 : 0 ≤ n) :
    Calls Try.prog 54 #[.pointer (some ⟨rb, 0, none⟩), .int .i64 n] w (OddT rb p n w) := by
  by_cases h0 : 0 < n
  · go_enter Try.func54, Try.ntmps54
    go_wp2_with (go_at_call 30; refine (pick _ _ _ _ H hp hn (by omega)).mono ?_; rintro e w' ⟨r, rfl, hr0, hr1, hr2, hr3⟩)
    go_ret
    exact ⟨_, p + 1, rfl, (fun h => by simp; omega), by omega, by omega, hr2, hr3⟩
  · have e0 : n = 0 := by omega
    subst e0
    go_enter Try.func54, Try.ntmps54
    go_wp2
    go_ret
    exact ⟨_, p, rfl, (fun h => absurd h (by decide)), by omega, by omega, H, Kept.refl _ _⟩

set_option maxHeartbeats 8000000 in
set_option maxRecDepth 100000 in
theorem l20Tokens (rb p : Nat) (n : Int) (w : World) (H : Rd w rb p) (hp : p ≤ 100000) (hn : n ≤ 100) (hn0 : 0 ≤ n) (least : Nat) (hl : least ≤ 1) (hl1 : 0 < least → n = 1) :
    Calls Try.prog 41 #[.pointer (some ⟨rb, 0, none⟩), .int .i64 n] w (DrawnToks rb p 300 least w) := by
  have hrb := H.lt
  go_enter Try.func41, Try.ntmps41
  go_wp2_with fail
  refine (l20Line rb p _ _ H hp (by omega) (by omega)).mono ?_
  rintro e w1 ⟨s, q1, rfl, hs, hq1, hR1, hK1⟩
  go_wp2_with fail
  refine (spec_TokensOf_row s _ (by unfold maxLen; omega)).mono ?_
  rintro e w2 ⟨v, rfl, hrow, hfr, hB2⟩
  have hcnt := (tokRes_all s).1
  obtain ⟨hE0, hok0⟩ := toks_rowE hrow hfr hs
  have hR2 := hR1.grow hB2
  have hK2 := hK1.trans (Kept.of_below (fp := [rb]) hB2)
  replace hE0 := hE0.lower hK1.size
  have HN : Hid (((tokRes s).1.map elemTok).length ≤ 60) := by show _ ≤ _; rw [List.length_map]; exact hcnt
  generalize (tokRes s).1.map elemTok = L0 at hE0 hok0 HN
  generalize (tokRes s).2 = b0 at *
  clear hrow hfr hcnt hB2 hR1 hK1
  obtain ⟨a, cap, rfl, hc, hm, hpos⟩ := hE0.val
  unfold maxLen at hm
  have hlen := HN.out
  go_wp2
  go_loopw [7] (fun i wr => ∃ (k q : Nat) (L : List (Elem Tok)), k ≤ L0.length ∧ i = .int .i64 k ∧ q ≤ q1 + 2 * k ∧ Hid (L.length = L0.length) ∧ RowE sTok w.heap.size 25 (.slice a L0.length cap) L wr ∧ (∀ x ∈ L, okTok x.d) ∧ Rd wr rb q ∧ Kept [rb] w wr) (fun i _ => L0.length - (intOf i).toNat)
  case atStart => exact ⟨0, q1, L0, by omega, rfl, by omega, rfl, hE0, hok0, hR2, hK2⟩
  case round =>
    obtain ⟨k, q, L, hk, rfl, hq, HL, hE, hok, hR, hK⟩ := hrel
    clear hE0 hok0 hR2 hK2
    by_cases hlt : k < L0.length
    · obtain ⟨g, rfl, hg1, hg2⟩ := hpos (by omega)
      go_wp2_with fail
      refine (pick rb q _ _ hR (by omega) (by omega) (by omega)).mono ?_
      rintro e w3 ⟨r, rfl, h0, h1, hR3, hK3⟩
      have hE3 := hE.keptR hK3 hrb
      have hK3' := hK.trans hK3
      by_cases hr : r = 0
      · have hr' : (r == 0) = true := by simp [hr]
        clear hr
        go_wp2_with fail
        refine (pick rb (q + 1) _ _ (hR3.grow (hidW_below w3)) (by omega) (by omega) (by omega)).mono ?_
        rintro e w4 ⟨r2, rfl, h20, h21, hR4, hK4⟩
        obtain ⟨hb, hn', l, hcl, hRl, hll, hlb, hty⟩ := hid_lits hR3.lt hK4 h20 (by omega)
        have hE4 := (hE3.below (hidW_below w3)).keptR hK4 hrb
        have hK4' := (hK3'.trans (Kept.of_below (fp := [rb]) (hidW_below w3))).trans hK4
        have hkL : k < L.length := by rw [HL.out]; exact hlt
        have hkm := List.getElem_mem hkL
        obtain ⟨hh, hcs, hi, hst, _⟩ := hE4.el _ hkm
        have HCS := Lib.hid hcs
        have c3 : w4.cell? ⟨g, k * 4 + 3, none⟩ = some hh := hE4.cellAt hkL (j := 3) (by decide) (by rw [hcs]; rfl)
        have f3 : w4.frozen? ⟨g, k * 4 + 3, none⟩ = false := hE4.frozen _
        have HOK := Lib.hid (hok _ hkm)
        have HI := Lib.hid (And.intro hi hst)
        obtain ⟨cur, fr, hcur⟩ := hty
        have HS : Hid (RowE sTok w.heap.size 25 (.slice (some ⟨g, 0, none⟩) L0.length cap) (L.set k ⟨[.int .i64 L[k].d.kind, .string L[k].d.text, .bool L[k].d.spaced, .slice (some ⟨hb, 0, none⟩) hn' hn'], ⟨L[k].d.kind, L[k].d.text, L[k].d.spaced, l⟩, [hb]⟩) (w4.setCell ⟨g, k * 4 + 3, none⟩ (.slice (some ⟨hb, 0, none⟩) hn' hn'))) := by
          refine hE4.set hkL (j := 3) (by decide) _ _ (by rw [HCS.out]; rfl) ⟨_, rfl, HI.out.1, HI.out.2, hRl⟩ (fun b hb' => ?_) (fun b hb' => ?_)
          · have e : b = hb := by simpa using hb'
            subst e
            have := hK3'.size; omega
          · have e : b = hb := by simpa using hb'
            subst e
            exact ⟨cur, _, fr, hcur, by decide⟩
        have HOKs : Hid (∀ x ∈ L.set k ⟨[.int .i64 L[k].d.kind, .string L[k].d.text, .bool L[k].d.spaced, .slice (some ⟨hb, 0, none⟩) hn' hn'], ⟨L[k].d.kind, L[k].d.text, L[k].d.spaced, l⟩, [hb]⟩, okTok x.d) := by
          intro x hx
          rcases List.mem_or_eq_of_mem_set hx with h | h
          · exact hok x h
          · subst h; exact ⟨HOK.out.1, HOK.out.2.1, HOK.out.2.2.1, hll⟩
        have HLs : Hid ((L.set k ⟨[.int .i64 L[k].d.kind, .string L[k].d.text, .bool L[k].d.spaced, .slice (some ⟨hb, 0, none⟩) hn' hn'], ⟨L[k].d.kind, L[k].d.text, L[k].d.spaced, l⟩, [hb]⟩).length = L0.length) := by show _ = _; rw [List.length_set]; exact HL.out
        have hR5 : Hid (Rd (w4.setCell ⟨g, k * 4 + 3, none⟩ (.slice (some ⟨hb, 0, none⟩) hn' hn')) rb (q + 1 + 1)) := hR4.kept ((Kept.refl [g] w4).setCell (p := ⟨g, k * 4 + 3, none⟩) (by simp) _) (fun b hb' => by have e : b = g := (by simpa using hb'); omega)
        have hK5 : Hid (Kept [rb] w (w4.setCell ⟨g, k * 4 + 3, none⟩ (.slice (some ⟨hb, 0, none⟩) hn' hn'))) := keptSet hK4' hg1 _ _
        clear hcs hok hE hE3 hE4 hi hst HCS HI hcur hR3 hK hK3 hK3' hK4 hR hRl hkm hR4 hK4'
        go_wp2
        go_roundw
        case rel => exact ⟨k + 1, q + 1 + 1, _, by omega, by go_num, by omega, HLs.out, HS.out, HOKs.out, hR5.out, hK5.out⟩
        case measure => simp [intOf]; omega
      · have hr' : (r == 0) = false := by simp [hr]
        clear hr
        go_wp2
        go_roundw
        case rel => exact ⟨k + 1, q + 1, L, by omega, by go_num, by omega, HL, hE3, hok, hR3, hK3'⟩
        case measure => simp [intOf]; omega
    · go_wp2_with fail
      refine (oddT rb q _ _ hR (by omega) (by omega) (by omega)).mono ?_
      rintro e w3 ⟨b, q2, rfl, hb1, hq1', hq2, hR3, hK3⟩
      have hE3 := hE.keptR hK3 hrb
      have hK3' := hK.trans hK3
      have HL1 := HL.out
      clear hE hK hR
      cases b
      · have HZ : Hid (least = 0) := by
          show _ = _
          by_cases h : 0 < least
          · exact absurd (hb1.out (hl1 h)) (by decide)
          · omega
        go_wp2
        go_ret
        exact ⟨_, L, q2, rfl, hE3, hok, by rw [HZ.out]; omega, by omega, by omega, hR3, hK3'⟩
      · go_wp2_with fail
        refine (pick rb q2 _ _ (hR3.grow (badW_below w3)) (by omega) (by omega) (by omega)).mono ?_
        rintro e w4 ⟨r2, rfl, h20, h21, hR4, hK4⟩
        obtain ⟨tk, ts, ao, tm, tl, tf, d0, d1, d2, d3, dR, dok, dlo, dty⟩ := bad_pick hR3.lt hK4 h20 (by omega)
        have hE4 := (hE3.below (badW_below w3)).keptR hK4 hrb
        have hK4' := (hK3'.trans (Kept.of_below (fp := [rb]) (badW_below w3))).trans hK4
        have hw4 : w3.heap.size ≤ w4.heap.size := Nat.le_trans (badW_below w3).size hK4.size
        have hw0 := hK4'.size
        have HT := Lib.hid (And.intro dR (And.intro (fun b hb => Nat.le_trans (Nat.le_trans hK3'.size (Nat.le_refl _)) (dlo b hb)) dty))
        have HR4 := Lib.hid hR4
        have HE4 := Lib.hid hE4
        have HOK := Lib.hid hok
        have HDK := Lib.hid dok
        have HK4' := Lib.hid hK4'
        clear hE3 hK3 hK3' hK4 hR3 dR dlo dty hE4 hR4 hok dok hK4' HL HN
        go_wp2_with (at_builtin; refine wp_append_tokE rfl (.tmp 51) (.tmp 59) rfl w.heap.size (.slice a L0.length cap) L rfl HE4.out tk ts false ao tm tm tl tf rfl HT.out.1 HT.out.2.1 HT.out.2.2 (by omega) hw0 ?_; intro v5 w5 hE5 hg5)
        go_ret
        exact ⟨v5, _, q2 + 1, rfl, hE5, okApp HOK.out HDK.out, by rw [List.length_append]; simp; omega, by rw [List.length_append]; simp; omega, by omega, grownRd HR4.out hg5 hrb HE4.out.mine, grownKept HK4'.out hg5 HE4.out.mine⟩

/-- append of two tokens out of their literal's own block. -/
theorem wp_append_tok2 {w : World} {ops : Array Oper} {rest : List Oper} {o : Oper} {a : Act} {Q : Exit → Act → World → Prop} (hg : o.guard = none) (s y : Operand)
    (ho : o.op = .call { callee := .builtin .append, args := #[s, y], argTypes := #[31, 31] })
    (base : Nat) (v : Value) (L : List (Elem Tok)) (hs : a.eval s = v) (hown : RowE sTok base 25 v L w) (k1 : Int) (x1 : ByteArray) (k2 : Int) (x2 : ByteArray)
    (hy : a.eval y = .slice (some ⟨w.heap.size, 0, none⟩) 2 2) (h1 : okTok ⟨k1, x1, false, []⟩) (h2 : okTok ⟨k2, x2, false, []⟩) (h63 : L.length ≤ 2000000) (hbase : base ≤ w.heap.size)
    (h : ∀ v' w', RowE sTok base 25 v' (L ++ [tokE k1 x1 none 0 [] [], tokE k2 x2 none 0 [] []]) w' → w.grownBy w' v.ownBlock → wpList Try.prog ops Q rest (a.put o.dst v') w') :
    wpList Try.prog ops Q (o :: rest) a (w.alloc (.cells #[.int .i64 k1, .string x1, .bool false, .slice none 0 0, .int .i64 k2, .string x2, .bool false, .slice none 0 0] 25)) := by
  have hb := alloc_below' w (.cells #[.int .i64 k1, .string x1, .bool false, .slice none 0 0, .int .i64 k2, .string x2, .bool false, .slice none 0 0] 25)
  have hX : ∀ {P : Elem Tok → Prop}, P (tokE k1 x1 none 0 [] []) → P (tokE k2 x2 none 0 [] []) → ∀ x ∈ [tokE k1 x1 none 0 [] [], tokE k2 x2 none 0 [] []], P x := fun a b x hx => by
    simp only [List.mem_cons, List.not_mem_nil, or_false] at hx
    rcases hx with rfl | rfl
    · exact a
    · exact b
  have R : ∀ (k : Int) (x : ByteArray) (W : World), okTok ⟨k, x, false, []⟩ → sTok.R W (tokE k x none 0 [] []).cells (tokE k x none 0 [] []).d [] := fun k x W h => by
    obtain ⟨a1, a2, a3, a4⟩ := h
    have b1 : okInt k := ⟨by have : 0 ≤ k := a2; omega, by have : k ≤ 4 := a3; omega⟩
    have b2 : okStr x := by unfold okStr maxLen; have : x.size ≤ 1000 := a1; omega
    exact ⟨_, rfl, b1, b2, slice_empty sStr W none 0 (by simp)⟩
  refine wp_append_rowE (S := sTok) ti_tok rfl (by decide) _ (X := [tokE k1 x1 none 0 [] [], tokE k2 x2 none 0 [] []]) hg s y ho base v hs (hown.below hb) w.heap.size 2 2 hy rfl (hX rfl rfl) (hX (by simp [tokE, Value.oneCell']) (by simp [tokE, Value.oneCell'])) ?_ (hX (R _ _ _ h1) (R _ _ _ h2)) (hX (by simp [tokE]) (by simp [tokE])) (hX (by simp [tokE]) (by simp [tokE])) (by unfold maxLen; omega) (by omega) (by simp; omega) fun v' w' a b => h v' w' a (grown_trans (World.grownBy_alloc _ _ _) b)
  intro j u hj
  rw [World.cell?_alloc_at _ _ _ _ rfl]
  simpa [tokE] using hj

theorem okA : okTok ⟨1, ⟨#[97]⟩, false, []⟩ := ⟨by decide, by decide, by decide, by decide⟩
theorem ok12 : okTok ⟨2, ⟨#[49, 50]⟩, false, []⟩ := ⟨by decide, by decide, by decide, by decide⟩
/-- A token is drawn. -/
def DrawnTok (rb p n : Nat) (w : World) (e : Ending) (w' : World) : Prop :=
  ∃ (k : Int) (s : ByteArray) (sp : Bool) (ao : Option Addr) (m c : Nat) (l : List ByteArray) (fp : List Nat) (q : Nat), e = .returned (.agg #[.int .i64 k, .string s, .bool sp, .slice ao m c]) ∧
    sTok.R w' [.int .i64 k, .string s, .bool sp, .slice ao m c] ⟨k, s, sp, l⟩ fp ∧ okTok ⟨k, s, sp, l⟩ ∧ (∀ b ∈ fp, w.heap.size ≤ b) ∧ (∀ b ∈ fp, ∃ cur t fr, w'.heap[b]? = some (.cells cur t fr) ∧ t ≠ 25) ∧ q ≤ p + n ∧ Rd w' rb q ∧ Kept [rb] w w'
theorem RowE.tokAt {base e g n cap : Nat} {L : List (Elem Tok)} {w : World} (h : RowE sTok base e (.slice (some ⟨g, 0, none⟩) n cap) L w) {i : Nat} (hi : i < L.length) :
    ∃ ao m c, w.cell? ⟨g, i * 4, none⟩ = some (.int .i64 L[i].d.kind) ∧ w.cell? ⟨g, i * 4 + 1, none⟩ = some (.string L[i].d.text) ∧ w.cell? ⟨g, i * 4 + 2, none⟩ = some (.bool L[i].d.spaced) ∧ w.cell? ⟨g, i * 4 + 3, none⟩ = some (.slice ao m c) ∧
      sTok.R w [.int .i64 L[i].d.kind, .string L[i].d.text, .bool L[i].d.spaced, .slice ao m c] L[i].d L[i].fp := by
  have hR := h.el _ (List.getElem_mem hi)
  have hR' := hR
  obtain ⟨hh, hcs, _, _, hK⟩ := hR
  obtain ⟨ao, c, rfl, -⟩ := open_rows hK
  have hc := fun j (hj : j < 4) u (hu : L[i].cells[j]? = some u) => h.cellAt hi hj hu
  rw [hcs] at hR'
  exact ⟨ao, _, c, hc 0 (by omega) _ (by rw [hcs]; rfl), hc 1 (by omega) _ (by rw [hcs]; rfl), hc 2 (by omega) _ (by rw [hcs]; rfl), hc 3 (by omega) _ (by rw [hcs]; rfl), hR'⟩
theorem blkKept {rb g : Nat} {w w' : World} {o : Obj} (h : w.heap[g]? = some o) (hk : Kept [rb] w w') (hn : g ≠ rb) : w'.heap[g]? = some o :=
  (hk.block g (Array.getElem?_eq_some_iff.1 h).1 (by simpa using hn)).trans h

theorem ty_sets {w : World} {g : Nat} {fp : List Nat} {e : TypeId} (h : ∀ b ∈ fp, ∃ cur t fr, w.heap[b]? = some (.cells cur t fr) ∧ t ≠ e) (hn : g ∉ fp) (v0 v1 v2 v3 : Value) :
    ∀ b ∈ fp, ∃ cur t fr, ((((w.setCell ⟨g, 0, none⟩ v0).setCell ⟨g, 1, none⟩ v1).setCell ⟨g, 2, none⟩ v2).setCell ⟨g, 3, none⟩ v3).heap[b]? = some (.cells cur t fr) ∧ t ≠ e := fun b hb => by
  obtain ⟨cur, t, fr, h1, h2⟩ := h b hb
  have hne : b ≠ g := fun e => hn (e ▸ hb)
  exact ⟨cur, t, fr, blk_other (blk_other (blk_other (blk_other h1 hne 0 v0) hne 1 v1) hne 2 v2) hne 3 v3, h2⟩

set_option maxHeartbeats 8000000 in
set_option maxRecDepth 100000 in
theorem l20Token (rb p : Nat) (n : Int) (w : World) (H : Rd w rb p) (hp : p ≤ 50000) (hn : n ≤ 100) (hn0 : 0 ≤ n) :
    Calls Try.prog 29 #[.pointer (some ⟨rb, 0, none⟩), .int .i64 n] w (DrawnTok rb p 700 w) := by
  have hrb := H.lt
  have hB0 := alloc_below' w (.cells #[.int .i64 0, .string ⟨#[]⟩, .bool false, .slice none 0 0] 25)
  have HX := Lib.hid (show (w.alloc (.cells #[.int .i64 0, .string ⟨#[]⟩, .bool false, .slice none 0 0] 25)).heap[w.heap.size]? = some (.cells #[.int .i64 0, .string ⟨#[]⟩, .bool false, .slice none 0 0] 25 (0, 0)) from by show (w.heap.push _)[_]? = _; simp)
  have hs0 : (w.alloc (.cells #[.int .i64 0, .string ⟨#[]⟩, .bool false, .slice none 0 0] 25)).heap.size = w.heap.size + 1 := Array.size_push _
  have HS := Lib.hid hs0
  clear hs0
  have hK0 : Kept [rb] w (w.alloc (.cells #[.int .i64 0, .string ⟨#[]⟩, .bool false, .slice none 0 0] 25)) := Kept.of_below hB0
  go_enter Try.func29, Try.ntmps29
  go_wp2_with fail
  refine (l20Tokens rb p _ _ (H.grow hB0) (by omega) (by omega) (by omega) 0 (by omega) (by omega)).mono ?_
  rintro e w1 ⟨v1, L, q1, rfl, hE1, hok1, -, hl1, hq1, hR1, hK1⟩
  rw [HS.out] at hE1
  have HX1 := Lib.hid (blkKept HX.out hK1 (by omega))
  have hK1' := hK0.trans hK1
  have hw1 : w.heap.size + 1 ≤ w1.heap.size := by have := hK1.size; rw [HS.out] at this; exact this
  go_wp2_with (at_builtin; refine wp_append_tok2 rfl (.tmp 7) (.tmp 10) rfl (w.heap.size + 1) v1 L rfl hE1 1 ⟨#[97]⟩ 2 ⟨#[49, 50]⟩ rfl okA ok12 (by omega) hw1 ?_; intro v2 w2 hE2 hg2)
  have hL2 : (L ++ [tokE 1 ⟨#[97]⟩ none 0 [] [], tokE 2 ⟨#[49, 50]⟩ none 0 [] []]).length = L.length + 2 := by simp
  have HOK := Lib.hid (okApp2 hok1 (x := tokE 1 ⟨#[97]⟩ none 0 [] []) (x' := tokE 2 ⟨#[49, 50]⟩ none 0 [] []) okA ok12)
  have HR2 := grownRd hR1 hg2 (by omega : rb < w.heap.size + 1) hE1.mine
  have HX2 := Lib.hid ((hg2.block _ (Array.getElem?_eq_some_iff.1 HX1.out).1 (fun h => by have := hE1.mine _ h.symm; omega)).trans HX1.out)
  have HK2 := grownKept hK1' hg2 (fun b hb => by have := hE1.mine b hb; omega)
  generalize (L ++ [tokE 1 ⟨#[97]⟩ none 0 [] [], tokE 2 ⟨#[49, 50]⟩ none 0 [] []]) = L2 at *
  clear hE1 hok1 hg2 HX1 hR1 hK1 hK1' HX hK0 hB0 H
  have HE2 := Lib.hid hE2
  have HK2' := Lib.hid HK2
  have hw2 := HK2.size
  go_wp2_with fail
  refine (odd rb q1 _ _ HR2 (by omega) (by omega) (by omega)).mono ?_
  rintro e w3 ⟨b, q2, rfl, hq2, hq3, hR3, hK3⟩
  have HE3 := Lib.hid (HE2.out.keptR hK3 (by omega))
  have HX3 := Lib.hid (blkKept HX2.out hK3 (by omega))
  have HK3 := Lib.hid (HK2'.out.trans hK3)
  have hw3s : w.heap.size + 1 ≤ w3.heap.size := (Array.getElem?_eq_some_iff.1 HX3.out).1
  clear hE2 HE2 HX2 HK2 HK2' hK3 HR2
  cases b
  · obtain ⟨a, cap, rfl, hc, hm, hpos⟩ := HE3.out.val
    unfold maxLen at hm
    obtain ⟨g, rfl, hg1, hg2⟩ := hpos (by omega)
    clear hpos
    go_wp2_with fail
    refine (pick rb q2 _ _ hR3 (by omega) (by omega) (by omega)).mono ?_
    rintro e w4 ⟨r, rfl, h0, h1, hR4, hK4⟩
    have HE4 := Lib.hid (HE3.out.keptR hK4 (by omega))
    have HX4 := Lib.hid (blkKept HX3.out hK4 (by omega))
    have HK4 := Lib.hid (HK3.out.trans hK4)
    have HR4 := Lib.hid hR4
    have hi : r.toNat < L2.length := by omega
    clear HE3 HX3 HK3 hK4 hR3 hR4
    obtain ⟨ao, tm, tc, d0, d1, d2, d3, dR⟩ := HE4.out.tokAt hi
    have dn : w.heap.size ∉ L2[r.toNat].fp := fun hx => by have := HE4.out.lo _ (List.getElem_mem hi) _ hx; omega
    have dlo := Lib.hid (show ∀ b ∈ L2[r.toNat].fp, w.heap.size ≤ b from fun b hx => by have := HE4.out.lo _ (List.getElem_mem hi) _ hx; omega)
    have qc0 : w4.cell? ⟨w.heap.size, 0, none⟩ = some (.int .i64 0) := cell_of_row _ _ 0 _ _ _ HX4.out
    have qc1 : w4.cell? ⟨w.heap.size, 1, none⟩ = some (.string ⟨#[]⟩) := cell_of_row _ _ 1 _ _ _ HX4.out
    have qc2 : w4.cell? ⟨w.heap.size, 2, none⟩ = some (.bool false) := cell_of_row _ _ 2 _ _ _ HX4.out
    have qc3 : w4.cell? ⟨w.heap.size, 3, none⟩ = some (.slice none 0 0) := cell_of_row _ _ 3 _ _ _ HX4.out
    have f0 : w4.frozen? ⟨w.heap.size, 0, none⟩ = false := frozen_of_row _ _ 0 _ _ HX4.out
    have f1 : w4.frozen? ⟨w.heap.size, 1, none⟩ = false := frozen_of_row _ _ 1 _ _ HX4.out
    have f2 : w4.frozen? ⟨w.heap.size, 2, none⟩ = false := frozen_of_row _ _ 2 _ _ HX4.out
    have f3 : w4.frozen? ⟨w.heap.size, 3, none⟩ = false := frozen_of_row _ _ 3 _ _ HX4.out
    have HOK1 := Lib.hid (HOK.out _ (List.getElem_mem hi))
    have dty := HE4.out.ty _ (List.getElem_mem hi)
    generalize L2[r.toNat].fp = tf at dR dn dlo dty
    have HTY := Lib.hid (ty_sets dty dn (.int .i64 L2[r.toNat].d.kind) (.string L2[r.toNat].d.text) (.bool L2[r.toNat].d.spaced) (.slice ao tm tc))
    clear dty
    have HBK := Lib.hid (blk_set (blk_set (blk_set (blk_set HX4.out 0 (.int .i64 L2[r.toNat].d.kind)) 1 (.string L2[r.toNat].d.text)) 2 (.bool L2[r.toNat].d.spaced)) 3 (.slice ao tm tc))
    have HDR := Lib.hid (sTok.setB (sTok.setB (sTok.setB (sTok.setB dR dn 0 (.int .i64 L2[r.toNat].d.kind)) dn 1 (.string L2[r.toNat].d.text)) dn 2 (.bool L2[r.toNat].d.spaced)) dn 3 (.slice ao tm tc))
    have HRF := Lib.hid (rdSet (rdSet (rdSet (rdSet HR4.out hrb 0 (.int .i64 L2[r.toNat].d.kind)) hrb 1 (.string L2[r.toNat].d.text)) hrb 2 (.bool L2[r.toNat].d.spaced)) hrb 3 (.slice ao tm tc))
    have HKF := Lib.hid (keptSet (keptSet (keptSet (keptSet HK4.out (Nat.le_refl _) (.int .i64 L2[r.toNat].d.kind) 0) (Nat.le_refl _) (.string L2[r.toNat].d.text) 1) (Nat.le_refl _) (.bool L2[r.toNat].d.spaced) 2) (Nat.le_refl _) (.slice ao tm tc) 3)
    clear dR dn
    go_wp2
    refine bodyPost_ret (results_cell_row rfl _ _ w.heap.size _ _ _ _ rfl HBK.out Try.underlying25 rfl (by kernel_rfl)) rfl ?_
    exact ⟨_, _, _, ao, tm, tc, _, tf, q2 + 1, rfl, HDR.out, HOK1.out, dlo.out, HTY.out, by omega, HRF.out, HKF.out⟩
  · go_wp2_with fail
    refine (l20Tokens rb q2 _ _ hR3 (by omega) (by omega) (by omega) 1 (by omega) (by omega)).mono ?_
    rintro e w4 ⟨v4, L4, q4, rfl, hE4, hok4, hl4, hl5, hq4, hR4, hK4⟩
    have hw3 : w.heap.size + 1 ≤ w3.heap.size := hw3s
    have HE4 := Lib.hid (hE4.lower hw3)
    have HX4 := Lib.hid (blkKept HX3.out hK4 (by omega))
    have HK4 := Lib.hid (HK3.out.trans hK4)
    have HR4 := Lib.hid hR4
    have HOK4 := Lib.hid hok4
    clear HE3 HX3 HK3 hK4 hR3 hR4 hE4 hok4
    obtain ⟨a, cap, rfl, hc, hm, hpos⟩ := HE4.out.val
    unfold maxLen at hm
    obtain ⟨g, rfl, hg1, hg2⟩ := hpos (by omega)
    clear hpos
    have hi : L4.length - 1 < L4.length := by omega
    have h6 : ((L4.length : Int) - 1).toNat = L4.length - 1 := by omega
    obtain ⟨ao, tm, tc, d0, d1, d2, d3, dR⟩ := HE4.out.tokAt hi
    have dn : w.heap.size ∉ L4[L4.length - 1].fp := fun hx => by have := HE4.out.lo _ (List.getElem_mem hi) _ hx; omega
    have dlo := Lib.hid (show ∀ b ∈ L4[L4.length - 1].fp, w.heap.size ≤ b from fun b hx => by have := HE4.out.lo _ (List.getElem_mem hi) _ hx; omega)
    have qc0 : w4.cell? ⟨w.heap.size, 0, none⟩ = some (.int .i64 0) := cell_of_row _ _ 0 _ _ _ HX4.out
    have qc1 : w4.cell? ⟨w.heap.size, 1, none⟩ = some (.string ⟨#[]⟩) := cell_of_row _ _ 1 _ _ _ HX4.out
    have qc2 : w4.cell? ⟨w.heap.size, 2, none⟩ = some (.bool false) := cell_of_row _ _ 2 _ _ _ HX4.out
    have qc3 : w4.cell? ⟨w.heap.size, 3, none⟩ = some (.slice none 0 0) := cell_of_row _ _ 3 _ _ _ HX4.out
    have f0 : w4.frozen? ⟨w.heap.size, 0, none⟩ = false := frozen_of_row _ _ 0 _ _ HX4.out
    have f1 : w4.frozen? ⟨w.heap.size, 1, none⟩ = false := frozen_of_row _ _ 1 _ _ HX4.out
    have f2 : w4.frozen? ⟨w.heap.size, 2, none⟩ = false := frozen_of_row _ _ 2 _ _ HX4.out
    have f3 : w4.frozen? ⟨w.heap.size, 3, none⟩ = false := frozen_of_row _ _ 3 _ _ HX4.out
    have HOK1 := Lib.hid (HOK4.out _ (List.getElem_mem hi))
    have dty := HE4.out.ty _ (List.getElem_mem hi)
    generalize L4[L4.length - 1].fp = tf at dR dn dlo dty
    have HTY := Lib.hid (ty_sets dty dn (.int .i64 L4[L4.length - 1].d.kind) (.string L4[L4.length - 1].d.text) (.bool L4[L4.length - 1].d.spaced) (.slice ao tm tc))
    clear dty
    have HBK := Lib.hid (blk_set (blk_set (blk_set (blk_set HX4.out 0 (.int .i64 L4[L4.length - 1].d.kind)) 1 (.string L4[L4.length - 1].d.text)) 2 (.bool L4[L4.length - 1].d.spaced)) 3 (.slice ao tm tc))
    have HDR := Lib.hid (sTok.setB (sTok.setB (sTok.setB (sTok.setB dR dn 0 (.int .i64 L4[L4.length - 1].d.kind)) dn 1 (.string L4[L4.length - 1].d.text)) dn 2 (.bool L4[L4.length - 1].d.spaced)) dn 3 (.slice ao tm tc))
    have HRF := Lib.hid (rdSet (rdSet (rdSet (rdSet HR4.out hrb 0 (.int .i64 L4[L4.length - 1].d.kind)) hrb 1 (.string L4[L4.length - 1].d.text)) hrb 2 (.bool L4[L4.length - 1].d.spaced)) hrb 3 (.slice ao tm tc))
    have HKF := Lib.hid (keptSet (keptSet (keptSet (keptSet HK4.out (Nat.le_refl _) (.int .i64 L4[L4.length - 1].d.kind) 0) (Nat.le_refl _) (.string L4[L4.length - 1].d.text) 1) (Nat.le_refl _) (.bool L4[L4.length - 1].d.spaced) 2) (Nat.le_refl _) (.slice ao tm tc) 3)
    clear dR dn
    go_wp2
    refine bodyPost_ret (results_cell_row rfl _ _ w.heap.size _ _ _ _ rfl HBK.out Try.underlying25 rfl (by kernel_rfl)) rfl ?_
    exact ⟨_, _, _, ao, tm, tc, _, tf, q4, rfl, HDR.out, HOK1.out, dlo.out, HTY.out, by omega, HRF.out, HKF.out⟩

end Go.Proofs.Ytbkmapaieillmaa

/- A row of structs that a call makes and fills, element by element. Over any program. -/
namespace Go.Proofs.Ytbkmapaieillmaa
open Go.RowKit

/-- Two blocks that were made one after another. -/
theorem alloc2_blk (w : World) (c0 c1 : Array Value) (t0 t1 : TypeId) :
    ((w.alloc (.cells c0 t0)).alloc (.cells c1 t1)).heap[w.heap.size]? = some (.cells c0 t0 (0, 0)) ∧
    ((w.alloc (.cells c0 t0)).alloc (.cells c1 t1)).heap[w.heap.size + 1]? = some (.cells c1 t1 (0, 0)) := by
  refine ⟨?_, ?_⟩
  · show ((w.heap.push _).push _)[_]? = _
    rw [Array.getElem?_push, if_neg (by simp), Array.getElem?_push, if_pos rfl]
  · show ((w.heap.push _).push _)[_]? = _
    rw [Array.getElem?_push, if_pos (by simp)]

/-- Cells stored one behind the other. -/
def putAll (w : World) (b : Nat) : Nat → List Value → World
  | _, [] => w
  | o, c :: cs => putAll (w.setCell ⟨b, o, none⟩ c) b (o + 1) cs
def setFrom : List Value → Nat → List Value → List Value
  | xs, _, [] => xs
  | xs, o, c :: cs => setFrom (xs.set o c) (o + 1) cs
theorem setFrom_app : ∀ (cs A Z R : List Value), Z.length = cs.length → setFrom (A ++ (Z ++ R)) A.length cs = A ++ (cs ++ R)
  | [], A, Z, R, h => by
    have : Z = [] := by simpa using h
    subst this; simp [setFrom]
  | c :: cs, A, [], R, h => by simp at h
  | c :: cs, A, z :: Z, R, h => by
    unfold setFrom
    have e : (A ++ (z :: Z ++ R)).set A.length c = (A ++ [c]) ++ (Z ++ R) := by simp
    rw [e]
    have e2 : A.length + 1 = (A ++ [c]).length := by simp
    rw [e2, setFrom_app cs (A ++ [c]) Z R (by simpa using h)]
    simp
theorem putAll_row {base e size n cap g : Nat} : ∀ (cs : List Value) (w : World) (xs : List Value) (o : Nat), w.ownsRow base e size (.slice (some ⟨g, 0, none⟩) n cap) n xs →
    (putAll w g o cs).ownsRow base e size (.slice (some ⟨g, 0, none⟩) n cap) n (setFrom xs o cs)
  | [], _, _, _, h => h
  | c :: cs, w, xs, o, h => putAll_row cs _ _ (o + 1) (h.stored o c).1
theorem putAll_below {B g : Nat} {a : World} (hg : B ≤ g) : ∀ (cs : List Value) (w : World) (o : Nat), Below B a w → Below B a (putAll w g o cs)
  | [], _, _, h => h
  | c :: cs, w, o, h => putAll_below hg cs _ (o + 1) (h.setCell (p := ⟨g, o, none⟩) hg c)
theorem putAll_kept {g : Nat} : ∀ (cs : List Value) (w : World) (o : Nat), Kept [g] w (putAll w g o cs)
  | [], w, _ => Kept.refl _ w
  | c :: cs, w, o => ((Kept.refl [g] w).setCell (p := ⟨g, o, none⟩) (by simp) c).trans (putAll_kept cs _ (o + 1))

/-- The row at block g (the first of the call's own): k elements are in it. -/
structure Filling {α : Type} (S : Shape α) (g : Nat) (e : TypeId) (l : List α) (k : Nat) (w : World) (L : List (Elem α)) (R : List Value) : Prop where
  row : w.ownsRow g e S.m (.slice (some ⟨g, 0, none⟩) l.length l.length) l.length (L.flatMap (·.cells) ++ R)
  dat : L.map (·.d) = l.take k
  len : ∀ x ∈ L, x.cells.length = S.m
  el : ∀ x ∈ L, S.R w x.cells x.d x.fp
  own : Own w (g + 1) (L.flatMap (·.fp))
section
variable {α : Type} {S : Shape α} {g e : Nat} {l : List α} {k : Nat} {w w' : World} {L : List (Elem α)} {R : List Value}
theorem Filling.start {xs : List Value} (h : w.ownsRow g e S.m (.slice (some ⟨g, 0, none⟩) l.length l.length) l.length xs) : Filling S g e l 0 w [] xs :=
  ⟨by simpa using h, by simp, by simp, by simp, Own.nil _ _⟩
theorem Filling.count (h : Filling S g e l k w L R) (hk : k ≤ l.length) : L.length = k := by
  have := congrArg List.length h.dat
  simpa [hk] using this
theorem Filling.cells (h : Filling S g e l k w L R) (hk : k ≤ l.length) : (L.flatMap (·.cells)).length = k * S.m := by rw [flatMap_len h.len, h.count hk]
theorem Filling.rest (h : Filling S g e l k w L R) (hk : k ≤ l.length) : R.length = (l.length - k) * S.m := by
  have h1 := h.row.1
  rw [List.length_append, h.cells hk] at h1
  have : (l.length - k) * S.m = l.length * S.m - k * S.m := Nat.sub_mul _ _ _
  omega
theorem Filling.lt (h : Filling S g e l k w L R) : g < w.heap.size := (h.row.lt g rfl).2
theorem Filling.below (h : Filling S g e l k w L R) (hb : Below w.heap.size w w') : Filling S g e l k w' L R where
  row := by
    refine ⟨h.row.1, ?_⟩
    rcases h.row.2 with h0 | ⟨g', cap, cur, h1, h2, h3, h4⟩
    · exact .inl h0
    · exact .inr ⟨g', cap, cur, h1, h2, (hb.block g' (Array.getElem?_eq_some_iff.1 h3).1).trans h3, h4⟩
  dat := h.dat
  len := h.len
  el := fun x hx => S.below (h.el x hx) hb
  own := h.own.grow hb
/-- The cells of the next element: there, not frozen. -/
theorem Filling.cell (h : Filling S g e l k w L R) (hk : k < l.length) {j : Nat} (hj : j < S.m) : ∃ u, w.cell? ⟨g, k * S.m + j, none⟩ = some u := by
  have h1 : (k + 1) * S.m ≤ l.length * S.m := Nat.mul_le_mul_right _ hk
  rw [Nat.succ_mul] at h1
  rw [h.row.cellAt (k * S.m + j) (by omega), List.getElem?_append_right (by rw [h.cells (by omega)]; omega), h.cells (by omega)]
  have h2 := h.rest (by omega)
  have h3 : (l.length - k) * S.m = l.length * S.m - k * S.m := Nat.sub_mul _ _ _
  exact ⟨R[k * S.m + j - k * S.m]'(by omega), List.getElem?_eq_getElem _⟩
theorem Filling.frozen (h : Filling S g e l k w L R) (o : Nat) : w.frozen? ⟨g, o, none⟩ = false := h.row.frozenAt o
theorem Filling.next {cs : List Value} {fp : List Nat} {w0 : World} (h0 : Filling S g e l k w0 L R) (hk : k < l.length) (hb : Below w0.heap.size w0 w) (hlen : cs.length = S.m) (hR : S.R w cs l[k] fp) (ho : Own w w0.heap.size fp) :
    ∃ R', Filling S g e l (k + 1) (putAll w g (k * S.m) cs) (L ++ [⟨cs, l[k], fp⟩]) R' := by
  have h := h0.below hb
  have hg0 := h0.lt
  have hap : ∀ x ∈ L, ∀ b ∈ x.fp, b ∈ L.flatMap (·.fp) := fun x hx b hb' => List.mem_flatMap.2 ⟨x, hx, hb'⟩
  have hn : ∀ b ∈ L.flatMap (·.fp), b ∉ [g] := fun b hb' => by have := (h.own.2 b hb').1; simp; omega
  have hn2 : ∀ b ∈ fp, b ∉ [g] := fun b hb' => by have := (ho.2 b hb').1; simp; omega
  have hK := putAll_kept (g := g) cs w (k * S.m)
  have hr := h.rest (by omega)
  have hsp : (l.length - k) * S.m = S.m + (l.length - (k + 1)) * S.m := by rw [show l.length - k = (l.length - (k + 1)) + 1 by omega, Nat.succ_mul]; omega
  refine ⟨R.drop S.m, ⟨?_, ?_, fun x hx => ?_, fun x hx => ?_, ?_⟩⟩
  · have := putAll_row cs w _ (k * S.m) h.row
    have e1 : L.flatMap (·.cells) ++ R = L.flatMap (·.cells) ++ (R.take S.m ++ R.drop S.m) := by rw [List.take_append_drop]
    rw [e1, ← h.cells (by omega), setFrom_app cs _ (R.take S.m) (R.drop S.m) (by rw [List.length_take, hlen]; omega)] at this
    rw [List.flatMap_append, List.flatMap_cons, List.flatMap_nil, List.append_nil, List.append_assoc, ← h.cells (by omega)]
    exact this
  · rw [List.map_append, h.dat, List.take_succ_eq_append_getElem hk]; rfl
  · rcases List.mem_append.1 hx with hx | hx
    · exact h.len x hx
    · obtain rfl := List.mem_singleton.1 hx; exact hlen
  · rcases List.mem_append.1 hx with hx | hx
    · exact S.kept (h.el x hx) (fun b hb' => hn b (hap x hx b hb')) hK
    · obtain rfl := List.mem_singleton.1 hx
      exact S.kept hR hn2 hK
  · rw [List.flatMap_append, List.flatMap_cons, List.flatMap_nil, List.append_nil]
    refine Own.app (h.own.kept hn hK) ((Own.lower ho (by omega)).kept hn2 hK) fun b hb1 hb2 => ?_
    have h1 := (ho.2 b hb2).1
    have h2 := h0.own.lt b hb1
    omega
theorem Filling.done (h : Filling S g e l k w L R) (hk : l.length = k) : ∃ fp, (sSlice S).R w [.slice (some ⟨g, 0, none⟩) l.length l.length] l fp ∧ Own w g fp := by
  have hc := h.count (by omega)
  have hr : R = [] := by
    have := h.rest (by omega)
    rw [hk, Nat.sub_self, Nat.zero_mul] at this
    exact List.length_eq_zero_iff.1 this
  have hd := h.dat
  rw [List.take_of_length_le (by omega)] at hd
  have hrow := h.row
  rw [hr, List.append_nil] at hrow
  have hL : L.length = l.length := by omega
  rw [← hL] at hrow
  obtain ⟨fp, h1, h2, h3⟩ := slice_of_row hrow (fun x hx => ⟨h.len x hx, h.el x hx⟩)
  rw [hd, hL] at h1
  exact ⟨fp, h1, h3 (Own.lower h.own (by omega)) (fun g' hg' hx => by
    simp only [Value.ownBlock, Option.some.injEq] at hg'
    have := (h.own.2 g' hx).1
    omega)⟩
end

/-- Weights of a list. -/
theorem wsum_succ {α : Type} (f : α → Nat) (l : List α) (k : Nat) (h : k < l.length) : ((l.take (k + 1)).map f).sum = ((l.take k).map f).sum + f l[k] := by
  rw [List.take_succ_eq_append_getElem h]; simp only [List.map_append, List.sum_append, List.map_cons, List.map_nil, List.sum_cons, List.sum_nil, Nat.add_zero]
theorem wsum_le {α : Type} (f : α → Nat) (l : List α) (k : Nat) : ((l.take k).map f).sum ≤ (l.map f).sum := by
  have := congrArg (fun l : List α => (l.map f).sum) (List.take_append_drop k l)
  simp only [List.map_append, List.sum_append] at this
  omega
theorem wsum_at {α : Type} (f : α → Nat) (l : List α) (k : Nat) (h : k < l.length) : f l[k] ≤ (l.map f).sum := by
  have h1 := wsum_succ f l k h
  have h2 := wsum_le f l (k + 1)
  omega

end Go.Proofs.Ytbkmapaieillmaa
