/- The program's tokens: one at a place. -/
import Derived.Test.YtigbaeokccknaaaTok0
import Derived.Test.YtigbaeokccknaaaStrip
import Derived.Test.YtigbaeokccknaaaShelf
namespace Go.Proofs.Ytigbaeokccknaaa
open Go.RowKit

theorem ret_ints {a b a' b' : Int} (h : a = a') (h' : b = b') : Ending.returned (.tuple #[.int .i64 a, .int .i64 b]) = .returned (.tuple #[.int .i64 a', .int .i64 b']) := by rw [h, h']

set_option maxHeartbeats 400000 in
theorem impl_isDigit (c : UInt8) (w : World) :
    Calls Try.prog 75 #[.int .u8 (c.toNat : Int)] w fun e w' => e = .returned (.bool (isDig c)) ∧ w = w' := by
  go_enter Try.func75, Try.ntmps75
  go_wp2
  all_goals
    go_ret
    exact ⟨ret_bool (by rw [Bool.eq_iff_iff, isDig_iff]; simp <;> omega), rfl⟩

set_option maxHeartbeats 400000 in
theorem impl_isWordByte (c : UInt8) (w : World) :
    Calls Try.prog 77 #[.int .u8 (c.toNat : Int)] w fun e w' => e = .returned (.bool (isWord c)) ∧ w = w' := by
  go_enter Try.func77, Try.ntmps77
  go_wp2_with (go_at_call 75; refine (impl_isDigit _ _).mono ?_; rintro e w' ⟨rfl, rfl⟩)
  all_goals
    go_ret
    exact ⟨ret_bool (by rw [Bool.eq_iff_iff, isWord_iff]; simp [isDig_iff] <;> omega), rfl⟩

set_option maxHeartbeats 400000 in
theorem impl_behindWord (s : ByteArray) (k0 : Nat) (w : World) (hs : s.size ≤ 1000000) (hk0 : k0 ≤ s.size) :
    Calls Try.prog 76 #[.string s, .int .i64 k0] w fun e w' => e = .returned (.int .i64 (wordTo s k0)) ∧ w = w' := by
  go_enter Try.func76, Try.ntmps76
  go_wp2
  go_loop [5] (fun i => ∃ k : Nat, k0 ≤ k ∧ k ≤ s.size ∧ i = .int .i64 k ∧ wEnd s k = wEnd s k0) (fun i => s.size - (intOf i).toNat)
  case atStart => exact ⟨k0, by omega, by omega, rfl, rfl⟩
  case round =>
    obtain ⟨k, hk0, hk, rfl, he⟩ := hrel
    have HE := Lib.hid he; clear he
    by_cases hlt : k < s.size
    · cases hw : isWord s[k]
      · have HF := Lib.hid ((wEnd_stop hlt hw).symm.trans HE.out)
        go_wp2_with (go_at_call 77; refine (impl_isWordByte _ _).mono ?_; rw [hw]; rintro e w' ⟨rfl, rfl⟩)
        all_goals
          go_ret
          exact ⟨ret_int (by first | exact wordTo_long HF.out (by omega) | exact wordTo_short HF.out (by omega)), rfl⟩
      · have HF := Lib.hid ((wEnd_in hlt hw).symm.trans HE.out)
        go_wp2_with (go_at_call 77; refine (impl_isWordByte _ _).mono ?_; rw [hw]; rintro e w' ⟨rfl, rfl⟩)
        go_round
        case rel => exact ⟨k + 1, by omega, by omega, by go_num, HF.out⟩
        case measure => simp [intOf]; omega
    · have HF := Lib.hid ((wEnd_out (s := s) (k := k) (by omega)).symm.trans HE.out)
      go_wp2
      all_goals
        go_ret
        exact ⟨ret_int (by first | exact wordTo_long HF.out (by omega) | exact wordTo_short HF.out (by omega)), rfl⟩

set_option maxHeartbeats 400000 in
theorem impl_behindClosedText (s : ByteArray) (k0 : Nat) (w : World) (hs : s.size ≤ 999000) (hk0 : k0 < s.size) :
    Calls Try.prog 78 #[.string s, .int .i64 k0] w fun e w' => e = .returned (.int .i64 (closeTo s (k0 + 1))) ∧ w = w' := by
  have hadd := fun W => run_string_add_sum (P := Try.prog) W s ⟨#[32]⟩ (by show s.size + 1 ≤ _; omega)
  have HP := Lib.hid (tEnd_plus s (k0 + 1) (by omega))
  have HS := Lib.hid (plus_size s)
  have HT : Hid (∀ W, Calls Try.prog 91 #[.string (plus s), .int .i64 k0] W fun e w' => e = .returned (.int .i64 (tEnd (plus s) (k0 + 1) : Nat)) ∧ w' = W) := fun W => impl_behindText (plus s) k0 W (by rw [HS.out]; omega) (by rw [HS.out]; omega)
  cases hc : tClose s (k0 + 1) with
  | none =>
    have HV : Hid (tEnd (plus s) (k0 + 1) = s.size + 1) := by show _ = _; rw [HP.out, hc]
    go_enter Try.func78, Try.ntmps78
    go_wp2_with (go_at_call 91; refine (HT.out _).mono ?_; rw [HV.out]; rintro e w' ⟨rfl, rfl⟩)
    go_ret
    exact ⟨ret_int (closeTo_none hc).symm, rfl⟩
  | some e =>
    have hb := tClose_some hc
    have hb1 := hb.1
    have hb2 := hb.2.1
    clear hb
    have HV : Hid (tEnd (plus s) (k0 + 1) = e) := by show _ = _; rw [HP.out, hc]
    go_enter Try.func78, Try.ntmps78
    go_wp2_with (go_at_call 91; refine (HT.out _).mono ?_; rw [HV.out]; rintro e w' ⟨rfl, rfl⟩)
    go_ret
    exact ⟨ret_int (closeTo_some hc).symm, rfl⟩

theorem indexByte_neg : ∀ (l : List UInt8) (c : UInt8), Lib.indexByte l c < 0 ↔ ¬ c ∈ l
  | [], c => by simp [Lib.indexByte]
  | b :: l, c => by
    have ih := indexByte_neg l c
    have hg := Lib.indexByte_ge l c
    unfold Lib.indexByte
    by_cases hb : (b == c) = true
    · rw [if_pos hb]; simp at hb; subst hb; simp
    · rw [if_neg hb]
      have hne : ¬ c = b := fun e => hb (by rw [e]; simp)
      by_cases h1 : (Lib.indexByte l c == -1) = true
      · rw [if_pos h1]
        have : Lib.indexByte l c = -1 := by simpa using h1
        simp only [List.mem_cons, not_or]
        exact ⟨fun _ => ⟨hne, ih.1 (by omega)⟩, fun _ => by omega⟩
      · rw [if_neg h1]
        have : ¬ Lib.indexByte l c = -1 := by simpa using h1
        simp only [List.mem_cons, not_or]
        exact ⟨fun h => absurd h (by omega), fun h => absurd (ih.2 h.2) (by omega)⟩
theorem go_mark (c : UInt8) (w : World) :
    Calls Try.prog 92 #[.string ⟨#[43, 45, 42, 47, 37, 60, 62, 61, 33, 38, 124, 40, 41, 44, 35, 59, 63, 58, 123, 125, 91, 93, 46]⟩, .int .u8 (c.toNat : Int)] w fun e w' => (∃ r : Int, e = .returned (.int .i64 r) ∧ (r < 0 ↔ ¬ c ∈ marks1)) ∧ w = w' := by
  refine (Try.strings_IndexByte _ _ w).mono ?_
  rintro e w' ⟨rfl, rfl⟩
  refine ⟨⟨_, rfl, ?_⟩, rfl⟩
  rw [indexByte_neg]
  have : ((c.toNat : Int)).toNat.toUInt8 = c := by simp
  rw [this]
  exact Iff.rfl

/-- The ways of two bytes. -/
theorem eight (s : ByteArray) (k : Nat) :
    (two s k 61 61 = true ∧ Hid (twoAt s k = true)) ∨
    (two s k 61 61 = false ∧ two s k 33 61 = true ∧ Hid (twoAt s k = true)) ∨
    (two s k 61 61 = false ∧ two s k 33 61 = false ∧ two s k 60 61 = true ∧ Hid (twoAt s k = true)) ∨
    (two s k 61 61 = false ∧ two s k 33 61 = false ∧ two s k 60 61 = false ∧ two s k 62 61 = true ∧ Hid (twoAt s k = true)) ∨
    (two s k 61 61 = false ∧ two s k 33 61 = false ∧ two s k 60 61 = false ∧ two s k 62 61 = false ∧ two s k 38 38 = true ∧ Hid (twoAt s k = true)) ∨
    (two s k 61 61 = false ∧ two s k 33 61 = false ∧ two s k 60 61 = false ∧ two s k 62 61 = false ∧ two s k 38 38 = false ∧ two s k 124 124 = true ∧ Hid (twoAt s k = true)) ∨
    (two s k 61 61 = false ∧ two s k 33 61 = false ∧ two s k 60 61 = false ∧ two s k 62 61 = false ∧ two s k 38 38 = false ∧ two s k 124 124 = false ∧ two s k 35 35 = true ∧ Hid (twoAt s k = true)) ∨
    (two s k 61 61 = false ∧ two s k 33 61 = false ∧ two s k 60 61 = false ∧ two s k 62 61 = false ∧ two s k 38 38 = false ∧ two s k 124 124 = false ∧ two s k 35 35 = false ∧ Hid (twoAt s k = false)) := by
  simp only [Hid, twoAt]
  cases two s k 61 61 <;> cases two s k 33 61 <;> cases two s k 60 61 <;> cases two s k 62 61 <;> cases two s k 38 38 <;> cases two s k 124 124 <;> cases two s k 35 35 <;> simp

theorem markTo_two {s : ByteArray} {k : Nat} (h : twoAt s k = true) : ((k : Int) + 2) = markTo s k := by unfold markTo mLen; rw [if_pos h]; simp
theorem mLen_one {s : ByteArray} {k : Nat} (h : twoAt s k = false) (hk : k < s.size) (hm : s[k] ∈ marks1) : mLen s k = 1 := by unfold mLen; rw [h]; simp [hk, hm]
theorem mLen_none {s : ByteArray} {k : Nat} (h : twoAt s k = false) (hk : k < s.size) (hm : ¬ s[k] ∈ marks1) : mLen s k = 0 := by unfold mLen; rw [h]; simp [hk, hm]
theorem markTo_one {s : ByteArray} {k : Nat} (h : twoAt s k = false) (hk : k < s.size) (hm : s[k] ∈ marks1) : ((k : Int) + 1) = markTo s k := by unfold markTo; rw [mLen_one h hk hm]; simp
theorem markTo_none {s : ByteArray} {k : Nat} (h : twoAt s k = false) (hk : k < s.size) (hm : ¬ s[k] ∈ marks1) : (-1 : Int) = markTo s k := by unfold markTo; rw [mLen_none h hk hm]; simp

set_option maxHeartbeats 1000000 in
theorem impl_behindMark (s : ByteArray) (k : Nat) (w : World) (hs : s.size ≤ 1000000) (hk : k < s.size) :
    Calls Try.prog 79 #[.string s, .int .i64 k] w fun e w' => e = .returned (.int .i64 (markTo s k)) ∧ w = w' := by
  by_cases hr : k + 2 ≤ s.size
  · have hsl := run_cut s (k : Int) ((k : Int) + 2) k (k + 2) rfl (by omega) (by omega) (by omega)
    have e1 := ext_two s k 61 61
    have e2 := ext_two s k 33 61
    have e3 := ext_two s k 60 61
    have e4 := ext_two s k 62 61
    have e5 := ext_two s k 38 38
    have e6 := ext_two s k 124 124
    have e7 := ext_two s k 35 35
    rcases eight s k with ⟨h1, HT⟩ | ⟨h1, h2, HT⟩ | ⟨h1, h2, h3, HT⟩ | ⟨h1, h2, h3, h4, HT⟩ | ⟨h1, h2, h3, h4, h5, HT⟩ | ⟨h1, h2, h3, h4, h5, h6, HT⟩ | ⟨h1, h2, h3, h4, h5, h6, h7, HT⟩ | ⟨h1, h2, h3, h4, h5, h6, h7, HT⟩
    all_goals
      (try rw [h1] at e1); (try rw [h2] at e2); (try rw [h3] at e3); (try rw [h4] at e4); (try rw [h5] at e5); (try rw [h6] at e6); (try rw [h7] at e7)
      go_enter Try.func79, Try.ntmps79
      go_wp2_with (go_at_call 92; refine (go_mark _ _).mono ?_; rintro e w' ⟨⟨r, rfl, hr⟩, rfl⟩; have HR := Lib.hid hr; clear hr)
      all_goals
        go_ret
        exact ⟨ret_int (by first | exact markTo_two HT.out | exact markTo_one HT.out hk (Decidable.byContradiction fun h => absurd (HR.out.2 h) (by omega)) | exact markTo_none HT.out hk (HR.out.1 (by omega))), rfl⟩
  · have HT : Hid (twoAt s k = false) := by
      show _ = _
      cases h : twoAt s k
      · rfl
      · have := twoAt_room h; omega
    go_enter Try.func79, Try.ntmps79
    go_wp2_with (go_at_call 92; refine (go_mark _ _).mono ?_; rintro e w' ⟨⟨r, rfl, hr⟩, rfl⟩; have HR := Lib.hid hr; clear hr)
    all_goals
      go_ret
      exact ⟨ret_int (by first | exact markTo_one HT.out hk (Decidable.byContradiction fun h => absurd (HR.out.2 h) (by omega)) | exact markTo_none HT.out hk (HR.out.1 (by omega))), rfl⟩

theorem kind_dig {c : UInt8} (h : isDig c = true) : (2 : Int) = cutKind c := by unfold cutKind; rw [if_pos h]
theorem kind_word {c : UInt8} (h : isDig c = false) (hw : isWord c = true) : (1 : Int) = cutKind c := by
  unfold cutKind; unfold isWord at hw; rw [h, Bool.or_false] at hw; rw [if_neg (by simp [h]), if_pos hw]
theorem kind_text {c : UInt8} (hw : isWord c = false) (hq : c.toNat = 34) : (3 : Int) = cutKind c := by
  unfold isWord at hw; rw [Bool.or_eq_false_iff] at hw; unfold cutKind; rw [if_neg (by simp [hw.2]), if_neg (by simp [hw.1]), if_pos hq]
theorem kind_mark {c : UInt8} (hw : isWord c = false) (hq : ¬ c.toNat = 34) : (4 : Int) = cutKind c := by
  unfold isWord at hw; rw [Bool.or_eq_false_iff] at hw; unfold cutKind; rw [if_neg (by simp [hw.2]), if_neg (by simp [hw.1]), if_neg hq]
theorem dig_word {c : UInt8} (h : isDig c = true) : isWord c = true := by unfold isWord; rw [h, Bool.or_true]
theorem cutEnd_w {s : ByteArray} {k : Nat} (h : k < s.size) (hw : isWord s[k] = true) : wordTo s k = cutEnd s k := by rw [cutEnd, dif_pos h, if_pos hw]
theorem cutEnd_t {s : ByteArray} {k : Nat} (h : k < s.size) (hw : isWord s[k] = false) (hq : s[k].toNat = 34) : closeTo s (k + 1) = cutEnd s k := by rw [cutEnd, dif_pos h, if_neg (by simp [hw]), if_pos hq]
theorem cutEnd_m {s : ByteArray} {k : Nat} (h : k < s.size) (hw : isWord s[k] = false) (hq : ¬ s[k].toNat = 34) : markTo s k = cutEnd s k := by rw [cutEnd, dif_pos h, if_neg (by simp [hw]), if_neg hq]

set_option maxHeartbeats 1000000 in
theorem impl_tokenAt (s : ByteArray) (k : Nat) (w : World) (hs : s.size ≤ 999000) (hk : k < s.size) :
    Calls Try.prog 45 #[.string s, .int .i64 k] w fun e w' => e = .returned (.tuple #[.int .i64 (cutKind s[k]), .int .i64 (cutEnd s k)]) ∧ w = w' := by
  cases hd : isDig s[k]
  · cases hw : isWord s[k]
    · by_cases hq : s[k].toNat = 34
      · have h34 : ((s[k].toNat : Int) == 34) = true := by simp; omega
        have HF := Lib.hid (cutEnd_t hk hw hq)
        have HK := Lib.hid (kind_text hw hq)
        clear hq
        go_enter Try.func45, Try.ntmps45
        go_wp2_with (first
          | (go_at_call 75; refine (impl_isDigit _ _).mono ?_; rw [hd]; rintro e w' ⟨rfl, rfl⟩)
          | (go_at_call 77; refine (impl_isWordByte _ _).mono ?_; rw [hw]; rintro e w' ⟨rfl, rfl⟩)
          | (go_at_call 78; refine (impl_behindClosedText s k _ hs hk).mono ?_; rintro e w' ⟨rfl, rfl⟩))
        go_ret2
        exact ⟨ret_ints HK.out HF.out, rfl⟩
      · have h34 : ((s[k].toNat : Int) == 34) = false := by simp; omega
        have HF := Lib.hid (cutEnd_m hk hw hq)
        have HK := Lib.hid (kind_mark hw hq)
        clear hq
        go_enter Try.func45, Try.ntmps45
        go_wp2_with (first
          | (go_at_call 75; refine (impl_isDigit _ _).mono ?_; rw [hd]; rintro e w' ⟨rfl, rfl⟩)
          | (go_at_call 77; refine (impl_isWordByte _ _).mono ?_; rw [hw]; rintro e w' ⟨rfl, rfl⟩)
          | (go_at_call 79; refine (impl_behindMark s k _ (by omega) hk).mono ?_; rintro e w' ⟨rfl, rfl⟩))
        go_ret2
        exact ⟨ret_ints HK.out HF.out, rfl⟩
    · have HF := Lib.hid (cutEnd_w hk hw)
      have HK := Lib.hid (kind_word hd hw)
      go_enter Try.func45, Try.ntmps45
      go_wp2_with (first
        | (go_at_call 75; refine (impl_isDigit _ _).mono ?_; rw [hd]; rintro e w' ⟨rfl, rfl⟩)
        | (go_at_call 77; refine (impl_isWordByte _ _).mono ?_; rw [hw]; rintro e w' ⟨rfl, rfl⟩)
        | (go_at_call 76; refine (impl_behindWord s k _ (by omega) (by omega)).mono ?_; rintro e w' ⟨rfl, rfl⟩))
      go_ret2
      exact ⟨ret_ints HK.out HF.out, rfl⟩
  · have HF := Lib.hid (cutEnd_w hk (dig_word hd))
    have HK := Lib.hid (kind_dig hd)
    go_enter Try.func45, Try.ntmps45
    go_wp2_with (first
      | (go_at_call 75; refine (impl_isDigit _ _).mono ?_; rw [hd]; rintro e w' ⟨rfl, rfl⟩)
      | (go_at_call 76; refine (impl_behindWord s k _ (by omega) (by omega)).mono ?_; rintro e w' ⟨rfl, rfl⟩))
    go_ret2
    exact ⟨ret_ints HK.out HF.out, rfl⟩

end Go.Proofs.Ytigbaeokccknaaa
