/- TokensOf of the program. -/
import Derived.Test.YtigbaeokccknaaaTok1
import Derived.Test.YtigbaeokccknaaaTokS
namespace Go.Proofs.Ytigbaeokccknaaa
open Go.RowKit

theorem lineOk_size' {s : ByteArray} (h : lineOk s = true) : s.size ≤ 200 := by
  unfold lineOk at h; rw [Bool.and_eq_true, decide_eq_true_eq] at h; exact h.1
theorem ret_toks {v : Value} {l : List Tok} {b : Bool} {s : ByteArray} (h : tokRes s = (l, b)) {B : Nat} {w w' : World} {fp : List Nat} (hr : (sSlice sTok).R w' [v] l fp) (ho : Own w' w.heap.size fp) (hb : Below w.heap.size w w') :
    TokMade (tokRes s) w (.returned (.tuple #[v, .bool b])) w' := by
  rw [h]; exact ⟨v, fp, rfl, hr, ho, hb⟩
theorem ret_no {s : ByteArray} (h : tokRes s = ([], false)) {w w' : World} {a : Option Addr} {cap : Nat} (hc : cap ≤ maxLen) (hb : Below w.heap.size w w') :
    TokMade (tokRes s) w (.returned (.tuple #[.slice a 0 cap, .bool false])) w' := by
  rw [h]; exact ⟨_, [], rfl, slice_empty _ _ _ _ hc, Own.nil _ _, hb⟩

set_option maxHeartbeats 4000000 in
theorem impl_TokensOf (s : ByteArray) (w : World) (hs : s.size ≤ maxLen) :
    Calls Try.prog 16 #[.string s] w (TokMade (tokRes s) w) := by
  have hm := hs
  unfold maxLen at hm
  cases h0 : lineOk s
  · have HF := Lib.hid (tokRes_bad h0)
    go_enter Try.func16, Try.ntmps16
    go_wp2_with (go_at_call 41; refine (impl_LineValid _ _ hs).mono ?_; rw [h0]; rintro e w' ⟨rfl, rfl⟩)
    go_ret2
    exact ret_no HF.out (by simp) (Below.refl _ _)
  have hsz := lineOk_size' h0
  have H0 := Lib.hid h0
  go_enter Try.func16, Try.ntmps16
  go_wp2_with (go_at_call 41; refine (impl_LineValid _ _ hs).mono ?_; rw [h0]; rintro e w' ⟨rfl, rfl⟩)
  clear h0
  go_loopw [4, 5, 6] (fun v sp i wr => ∃ (k : Nat) (b : Bool) (out : List Tok), k ≤ s.size ∧ i = .int .i64 k ∧ sp = .bool b ∧ AtT s k b out ∧ Fresh s.size out ∧ TokRow w.heap.size v out wr ∧ Below w.heap.size w wr) (fun _ _ i _ => s.size - (intOf i).toNat)
  case atStart => exact ⟨0, false, [], by omega, rfl, rfl, AtT.zero s, Fresh.nil _, TokRow.nil _ _, Below.refl _ _⟩
  case round =>
    obtain ⟨k, b, out, hk, rfl, rfl, hat, hfr, hown, hbel⟩ := hrel
    have ho : out.length ≤ 60 := hat.2
    have hbs := hbel.size
    by_cases hlt : k < s.size
    · by_cases h32 : s[k].toNat = 32
      · have HN := Lib.hid (hat.space hlt h32)
        have h32' : ((s[k].toNat : Int) == 32) = true := by simp; omega
        clear hat h32
        go_wp2
        go_roundw
        case rel => exact ⟨k + 1, true, out, by omega, by go_num, rfl, HN.out, hfr, hown, hbel⟩
        case measure => simp [intOf]; omega
      · have h32' : ((s[k].toNat : Int) == 32) = false := by simp; omega
        rcases cutEnd_ge s k with hneg | ⟨e, he, hke, hes⟩
        · have HF := Lib.hid (tokRes_none (hat.bad hlt h32 (.inl hneg)))
          clear hat h32
          go_wp2_with (go_at_call 45; refine (impl_tokenAt s k _ (by omega) hlt).mono ?_; rintro e w' ⟨rfl, rfl⟩)
          go_ret2
          exact ret_no HF.out (by simp) hbel
        · obtain ⟨a, cap, rfl, hcm⟩ := hown.slice
          by_cases h60 : out.length = 60
          · have HF := Lib.hid (tokRes_none (hat.bad hlt h32 (.inr h60)))
            have h60' : ((out.length : Int) == 60) = true := by simp; omega
            clear hat h32 h60
            go_wp2_with (go_at_call 45; refine (impl_tokenAt s k _ (by omega) hlt).mono ?_; rw [he]; rintro e w' ⟨rfl, rfl⟩)
            go_ret2
            exact ret_no HF.out (by simp) hbel
          · have HN := Lib.hid (hat.tok hlt h32 he h60)
            have HR := Lib.hid (hfr.snoc (k := k) (e := e) (sp := b) (c := s[k]) (Nat.le_refl s.size))
            have h60' : ((out.length : Int) == 60) = false := by simp; omega
            have hsl2 := fun W => (run_cut s (k : Int) (e : Int) k e rfl rfl (by omega) (by omega) W)
            clear hat h32 h60
            go_wp2_with (first
              | (go_at_call 45; refine (impl_tokenAt s k _ (by omega) hlt).mono ?_; rw [he]; rintro e w' ⟨rfl, rfl⟩)
              | (at_builtin; refine wp_append_tok rfl (.tmp 35) (.tmp 43) rfl w.heap.size _ out _ _ _ rfl hown rfl (by omega) hbs ?_; intro v1 w1 hown1 hg1))
            have hbel1 := hbel.grown hg1 hbs hown.mine
            go_roundw
            case rel => exact ⟨e, false, _, hes, rfl, rfl, HN.out, HR.out, hown1, hbel1⟩
            case measure => simp [intOf]; omega
    · have HF := Lib.hid (tokRes_some H0.out (hat.done (by omega)))
      clear hat
      go_wp2
      go_ret2
      obtain ⟨fp, h1, h2, _⟩ := own_toks hown hfr (by omega)
      exact ret_toks (B := 0) HF.out h1 h2 hbel

end Go.Proofs.Ytigbaeokccknaaa
