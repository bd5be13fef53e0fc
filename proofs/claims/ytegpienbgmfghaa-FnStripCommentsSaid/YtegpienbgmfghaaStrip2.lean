/- StripComments of the program. -/
import Derived.Test.YtegpienbgmfghaaStrip
import Derived.Test.YtegpienbgmfghaaBytes
import Derived.Test.YtegpienbgmfghaaEnv
import Derived.Outline
namespace Go.Proofs.Ytegpienbgmfghaa
open Go.RowKit

theorem go_pre (s : ByteArray) (k : Nat) (a b : UInt8) (w : World) :
    Calls Try.prog 29 #[.string (s.extract k s.size), .string ⟨#[a, b]⟩] w fun e w' => e = .returned (.bool (two s k a b)) ∧ w' = w := by
  have := Try.strings_HasPrefix (s.extract k s.size) ⟨#[a, b]⟩ w
  rw [show Lib.hasPrefix (s.extract k s.size).data.toList (⟨#[a, b]⟩ : ByteArray).data.toList = two s k a b from pre_two s k a b] at this
  exact this
theorem go_idx (s : ByteArray) (k : Nat) (m : Int) (w : World) (hs : s.size ≤ 1000000) (hm : w.cell? ⟨0, 0, none⟩ = some (.int .i64 m)) :
    Calls Try.prog 37 #[.string (s.extract k s.size), .string ⟨#[42, 47]⟩] w fun e w' => e = .returned (.int .i64 (Lib.index (s.data.toList.drop k) [42, 47])) ∧ w' = w := by
  have := Try.strings_Index (s.extract k s.size) ⟨#[42, 47]⟩ m w (by rw [ByteArray.size_extract]; omega) hm
  rw [show Lib.index (s.extract k s.size).data.toList (⟨#[42, 47]⟩ : ByteArray).data.toList = Lib.index (s.data.toList.drop k) [42, 47] from by rw [ext_rest]] at this
  exact this

set_option maxHeartbeats 400000 in
theorem impl_behindComment (s : ByteArray) (k0 : Nat) (m : Int) (w : World) (hs : s.size ≤ 1000000) (hk0 : k0 + 2 ≤ s.size) (hm : w.cell? ⟨0, 0, none⟩ = some (.int .i64 m)) :
    Calls Try.prog 30 #[.string s, .int .i64 k0] w fun e w' => e = .returned (.int .i64 (cEnd s (k0 + 2))) ∧ w' = w := by
  have hx : (((k0 : Int) + 2).toNat) = k0 + 2 := by omega
  have hroom : Hid (0 ≤ Lib.index (s.data.toList.drop (k0 + 2)) [42, 47] → Lib.index (s.data.toList.drop (k0 + 2)) [42, 47] ≤ 1000000) := fun h => by
    have := index_room _ h
    have e : s.data.toList.length = s.size := Array.length_toList
    simp only [List.length_cons, List.length_nil, List.length_drop] at this
    omega
  have hge : Hid (-1 ≤ Lib.index (s.data.toList.drop (k0 + 2)) [42, 47]) := Lib.index_ge _ _
  have HC : Hid (cEnd s (k0 + 2) = if Lib.index (s.data.toList.drop (k0 + 2)) [42, 47] < 0 then -1 else ((k0 + 2 : Nat) : Int) + Lib.index (s.data.toList.drop (k0 + 2)) [42, 47] + 2) := rfl
  have hcall := fun W (hm : W.cell? ⟨0, 0, none⟩ = some (.int .i64 m)) => go_idx s (k0 + 2) m W hs hm
  have HI := Lib.hid hcall
  clear hcall
  generalize Lib.index (s.data.toList.drop (k0 + 2)) [42, 47] = x at hroom hge HC HI
  by_cases hneg : x < 0
  · have HF : Hid (cEnd s (k0 + 2) = -1) := by show _ = _; rw [HC.out, if_pos hneg]
    go_enter Try.func30, Try.ntmps30
    go_wp2_with (go_at_call 37; refine (HI.out _ hm).mono ?_; rintro e w' ⟨rfl, rfl⟩)
    go_ret
    exact ⟨ret_int (by have := HF.out; omega), rfl⟩
  · have HF : Hid (cEnd s (k0 + 2) = (k0 : Int) + 2 + x + 2) := by show _ = _; rw [HC.out, if_neg hneg]; omega
    have h0 : 0 ≤ x := by omega
    have h1 : x ≤ 1000000 := hroom.out h0
    go_enter Try.func30, Try.ntmps30
    go_wp2_with (go_at_call 37; refine (HI.out _ hm).mono ?_; rintro e w' ⟨rfl, rfl⟩)
    go_ret
    exact ⟨ret_int (by have := HF.out; omega), rfl⟩

set_option maxHeartbeats 400000 in
theorem impl_behindText (s : ByteArray) (k0 : Nat) (w : World) (hs : s.size ≤ 1000000) (hk0 : k0 < s.size) :
    Calls Try.prog 31 #[.string s, .int .i64 k0] w fun e w' => e = .returned (.int .i64 (tEnd s (k0 + 1) : Nat)) ∧ w' = w := by
  go_enter Try.func31, Try.ntmps31
  go_wp2
  go_loop [5] (fun i => ∃ k : Nat, k ≤ s.size + 1 ∧ i = .int .i64 k ∧ tEnd s k = tEnd s (k0 + 1)) (fun i => s.size + 1 - (intOf i).toNat)
  case atStart => exact ⟨k0 + 1, by omega, by go_num, rfl⟩
  case round =>
    obtain ⟨k, hk, rfl, he⟩ := hrel
    by_cases hlt : k < s.size
    · by_cases h34 : s[k].toNat = 34
      · have HF := Lib.hid ((tEnd_quote hlt h34).symm.trans he)
        have h34' : ((s[k].toNat : Int) == 34) = true := by simp; omega
        have h92' : ((s[k].toNat : Int) == 92) = false := by simp; omega
        clear he
        go_wp2
        go_ret
        exact ⟨ret_int (by have := HF.out; omega), rfl⟩
      · have h34' : ((s[k].toNat : Int) == 34) = false := by simp; omega
        by_cases h92 : s[k].toNat = 92
        · have HF := Lib.hid ((tEnd_back hlt h92).symm.trans he)
          have h92' : ((s[k].toNat : Int) == 92) = true := by simp; omega
          clear he
          go_wp2
          go_round
          case rel => exact ⟨k + 2, by omega, by go_num, HF.out⟩
          case measure => simp [intOf]; omega
        · have HF := Lib.hid ((tEnd_else hlt h34 h92).symm.trans he)
          have h92' : ((s[k].toNat : Int) == 92) = false := by simp; omega
          clear he
          go_wp2
          go_round
          case rel => exact ⟨k + 1, by omega, by go_num, HF.out⟩
          case measure => simp [intOf]; omega
    · have HF := Lib.hid ((tEnd_out (s := s) (k := k) (by omega)).symm.trans he)
      clear he
      go_wp2
      go_ret
      exact ⟨ret_int (by have := HF.out; omega), rfl⟩

set_option maxHeartbeats 4000000 in
theorem impl_StripComments (s : ByteArray) (w : World) (hs : s.size ≤ maxLen) (hE : Env w) :
    Calls Try.prog 21 #[.string s] w fun e w' => e = .returned (.tuple #[.string (stripRes s).1, .bool (stripRes s).2]) ∧ Below w.heap.size w w' := by
  obtain ⟨m, hm⟩ := hE
  have hg : 0 < w.heap.size := World.block_lt_of_cell? w _ hm
  have hm2 := hs
  unfold maxLen at hm2
  cases h0 : lineOk s
  · have HF := Lib.hid (stripRes_bad h0)
    go_enter Try.func21, Try.ntmps21
    go_wp2_with (go_at_call 9; refine (impl_LineValid _ _ hs).mono ?_; rw [h0]; rintro e w' ⟨rfl, rfl⟩)
    go_ret2
    exact ⟨ret_two HF.out, Below.refl _ _⟩
  have hsz := lineOk_size h0
  have H0 := Lib.hid h0
  have HM := Lib.hid hm
  clear hm
  go_enter Try.func21, Try.ntmps21
  go_wp2_with (go_at_call 9; refine (impl_LineValid _ _ hs).mono ?_; rw [h0]; rintro e w' ⟨rfl, rfl⟩)
  clear h0
  go_loopw [4, 5] (fun o i wr => ∃ (k : Nat) (out : ByteArray), k ≤ s.size ∧ i = .int .i64 k ∧ At1 s k out ∧ Bytes w.heap.size o out wr ∧ Below w.heap.size w wr) (fun _ i _ => s.size - (intOf i).toNat)
  case atStart => exact ⟨0, ⟨#[]⟩, by omega, rfl, At1.zero s, Bytes.none _ _, Below.refl _ _⟩
  case round =>
    obtain ⟨k, out, hk, rfl, hat, hown, hbel⟩ := hrel
    have ho : out.size ≤ 200 := by have := hat.2; omega
    have hmx := (hbel.cell (p := ⟨0, 0, none⟩) hg).trans HM.out
    have hcv := run_own_string hown
    have hk1 : (k : Int) ≤ (s.size : Int) := by omega
    have hbs := hbel.size
    by_cases hlt : k < s.size
    · have hw := ways hat hlt
      clear hat
      rcases hw with ⟨h1, HF⟩ | ⟨h1, h2, h3, HF⟩ | ⟨c, h1, h2, h3, h4, h5, HN⟩ | ⟨c, h1, h2, h3, h6, h4, h5, HN⟩ | ⟨h1, h2, h3, HN⟩
      · have HR := Lib.hid (stripRes_some H0.out HF.out)
        go_wp2_with (go_at_call 29; refine (go_pre s k 47 47 _).mono ?_; rw [h1]; rintro e w' ⟨rfl, rfl⟩)
        go_ret2
        exact ⟨ret_two HR.out, hbel⟩
      · have HR := Lib.hid (stripRes_none HF.out)
        have hr := two_room h2
        go_wp2_with (first
          | (go_at_call 29; first | (refine (go_pre s k 47 47 _).mono ?_; rw [h1]; rintro e w' ⟨rfl, rfl⟩) | (refine (go_pre s k 47 42 _).mono ?_; rw [h2]; rintro e w' ⟨rfl, rfl⟩))
          | (go_at_call 30; refine (impl_behindComment s k m _ (by omega) (by omega) hmx).mono ?_; rintro e w' ⟨rfl, rfl⟩))
        go_ret2
        exact ⟨ret_two HR.out, hbel⟩
      · have hr := two_room h2
        go_wp2_with (first
          | (go_at_call 29; first | (refine (go_pre s k 47 47 _).mono ?_; rw [h1]; rintro e w' ⟨rfl, rfl⟩) | (refine (go_pre s k 47 42 _).mono ?_; rw [h2]; rintro e w' ⟨rfl, rfl⟩))
          | (go_at_call 30; refine (impl_behindComment s k m _ (by omega) (by omega) hmx).mono ?_; rw [h3]; rintro e w' ⟨rfl, rfl⟩)
          | (at_builtin; refine wp_append_byte rfl (.tmp 40) (.tmp 41) rfl w.heap.size _ out ⟨#[32]⟩ 32 rfl hown rfl rfl (by omega) hbs ?_; intro v1 w1 hown1 hg1))
        have hbel1 := hbel.grown hg1 hbs (fun b hb => (hown.lt b hb).1)
        go_roundw
        case rel => exact ⟨c, _, h5, rfl, HN.out, hown1, hbel1⟩
        case measure => simp [intOf]; omega
      · have hsl2 := fun W => (run_cut s (k : Int) (c : Int) k c rfl rfl (by omega) (by omega) W)
        have hes : (s.extract k c).size ≤ 200 := by rw [ByteArray.size_extract]; omega
        go_wp2_with (first
          | (go_at_call 29; first | (refine (go_pre s k 47 47 _).mono ?_; rw [h1]; rintro e w' ⟨rfl, rfl⟩) | (refine (go_pre s k 47 42 _).mono ?_; rw [h2]; rintro e w' ⟨rfl, rfl⟩))
          | (go_at_call 31; refine (impl_behindText s k _ (by omega) (by omega)).mono ?_; rw [h6]; rintro e w' ⟨rfl, rfl⟩)
          | (at_builtin; refine wp_append_str rfl (.tmp 52) (.tmp 56) rfl w.heap.size _ out (s.extract k c) rfl hown rfl (by omega) hbs ?_; intro v1 w1 hown1 hg1))
        have hbel1 := hbel.grown hg1 hbs (fun b hb => (hown.lt b hb).1)
        go_roundw
        case rel => exact ⟨c, _, h5, rfl, HN.out, hown1, hbel1⟩
        case measure => simp [intOf]; omega
      · have hb1 := strCells_at s k hlt
        go_wp2_with (first
          | (go_at_call 29; first | (refine (go_pre s k 47 47 _).mono ?_; rw [h1]; rintro e w' ⟨rfl, rfl⟩) | (refine (go_pre s k 47 42 _).mono ?_; rw [h2]; rintro e w' ⟨rfl, rfl⟩))
          | (at_builtin; refine wp_append_byte rfl (.tmp 15) (.tmp 19) rfl w.heap.size _ out (s.extract k (k + 1)) _ rfl hown rfl hb1 (by omega) hbs ?_; intro v1 w1 hown1 hg1))
        have hbel1 := hbel.grown hg1 hbs (fun b hb => (hown.lt b hb).1)
        go_roundw
        case rel => exact ⟨k + 1, _, by omega, by go_num, HN.out, hown1, hbel1⟩
        case measure => simp [intOf]; omega
    · have HF := Lib.hid (stripRes_some H0.out (hat.done (by omega)))
      clear hat
      go_wp2
      go_ret2
      exact ⟨ret_two HF.out, hbel⟩

end Go.Proofs.Ytegpienbgmfghaa
