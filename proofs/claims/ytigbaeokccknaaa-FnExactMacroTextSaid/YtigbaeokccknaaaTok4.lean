/- TokensOf of the model; TokenValid of both. -/
import Derived.Test.YtigbaeokccknaaaTok3
namespace Go.Proofs.Ytigbaeokccknaaa
open Go.RowKit

theorem TokRow.below {base : Nat} {v : Value} {l : List Tok} {w w' : World} (h : TokRow base v l w) (hb : Below w.heap.size w w') : TokRow base v l w' := by
  refine ⟨h.1, ?_⟩
  rcases h.2 with h0 | ⟨g, cap, cur, h1, h2, h3, h4⟩
  · exact .inl h0
  · exact .inr ⟨g, cap, cur, h1, h2, (hb.block g (Array.getElem?_eq_some_iff.1 h3).1).trans h3, h4⟩
theorem TokRow.empty (w : World) : TokRow w.heap.size (.slice (some ⟨w.heap.size, 0, none⟩) 0 0) [] (w.alloc (.cells #[] 60)) :=
  ⟨rfl, .inr ⟨w.heap.size, 0, #[], rfl, Nat.le_refl _, by show (w.heap.push _)[w.heap.size]? = _; simp, Nat.le_refl _, by simp, rfl, rfl⟩⟩
theorem cutGood {s : ByteArray} {k e : Nat} (hk : k < s.size) (he : cutEnd s k = e) : sCut s k = (cutKind s[k], (e : Int)) ∧ 1 ≤ cutKind s[k] ∧ cutKind s[k] ≤ 4 ∧ (cutKind s[k] ≤ 2 → (e : Int) - (k : Int) ≤ 12) := by
  have h := sCut_good hk (by omega)
  rw [he] at h
  obtain ⟨h1, h2⟩ := h
  have h3 := cutKind_in s[k]
  refine ⟨h2, h3.1, h3.2, fun h => ?_⟩
  rw [h2] at h1
  unfold SBad at h1
  simp only at h1
  omega
theorem cutBad {s : ByteArray} {k : Nat} (hk : k < s.size) (h : cutEnd s k < 0) : ∃ a b : Int, sCut s k = (a, b) ∧ (b = k ∨ b ≠ k ∧ a = 0 ∨ b ≠ k ∧ a = 1 ∧ 12 < b - k ∨ b ≠ k ∧ a = 2 ∧ 12 < b - k) := by
  have h1 := sCut_bad hk h
  unfold SBad at h1
  exact ⟨(sCut s k).1, (sCut s k).2, rfl, by omega⟩
theorem sCut_room {s : ByteArray} {k : Nat} (hk : k < s.size) : 0 ≤ (sCut s k).2 ∧ (sCut s k).2 ≤ 1000000 + s.size := by
  cases hw : isWord s[k]
  · by_cases hq : s[k].toNat = 34
    · cases hc : tClose s (k + 1) with
      | none => rw [sCut_open hk hw hq hc]; constructor <;> simp only <;> omega
      | some e => have := tClose_some hc; rw [sCut_closed hk hw hq hc]; constructor <;> simp only <;> omega
    · have := mLen_room hk; rw [sCut_mark hk hw hq]; constructor <;> simp only <;> omega
  · have := (wEnd_bounds s (k + 1)).2 (by omega)
    rw [sCut_word hk hw]; constructor <;> simp only <;> omega

/-- .. as a row of the call's own. -/
def TokRowed (s : ByteArray) (w : World) (e : Ending) (w' : World) : Prop :=
  ∃ v, e = .returned (.tuple #[v, .bool (tokRes s).2]) ∧ TokRow w.heap.size v (tokRes s).1 w' ∧ Fresh s.size (tokRes s).1 ∧ Below w.heap.size w w'
theorem TokRow.emptyAt {base : Nat} (w : World) (h : base ≤ w.heap.size) : TokRow base (.slice (some ⟨w.heap.size, 0, none⟩) 0 0) [] (w.alloc (.cells #[] 60)) :=
  ⟨rfl, .inr ⟨w.heap.size, 0, #[], rfl, h, by show (w.heap.push _)[w.heap.size]? = _; simp, Nat.le_refl _, by simp, rfl, rfl⟩⟩
theorem ret_no2 {s : ByteArray} (h : tokRes s = ([], false)) {w W : World} (hb : Below w.heap.size w W) (hs : w.heap.size ≤ W.heap.size) :
    TokRowed s w (.returned (.tuple #[.slice (some ⟨W.heap.size, 0, none⟩) 0 0, .bool false])) (W.alloc (.cells #[] 60)) := by
  unfold TokRowed; rw [h]; exact ⟨_, rfl, TokRow.emptyAt W hs, Fresh.nil _, hb.alloc hs _⟩
theorem ret_toks2 {v : Value} {l : List Tok} {s : ByteArray} (h : tokRes s = (l, true)) {w w' : World} (hr : TokRow w.heap.size v l w') (hf : Fresh s.size l) (hb : Below w.heap.size w w') :
    TokRowed s w (.returned (.tuple #[v, .bool true])) w' := by
  unfold TokRowed; rw [h]; exact ⟨v, rfl, hr, hf, hb⟩

set_option maxHeartbeats 8000000 in
theorem spec_TokensOf_row (s : ByteArray) (w : World) (hs : s.size ≤ maxLen) :
    Calls Try.prog 50 #[.string s] w (TokRowed s w) := by
  have hm := hs
  unfold maxLen at hm
  cases h0 : lineOk s
  · have HF := Lib.hid (tokRes_bad h0)
    go_enter Try.func50, Try.ntmps50
    go_wp2_with (go_at_call 83; refine (spec_LineValid _ _ hs).mono ?_; rw [h0]; rintro e w' ⟨rfl, rfl⟩)
    go_ret2
    exact ret_no2 HF.out (Below.refl _ _) (Nat.le_refl _)
  have hsz := lineOk_size' h0
  have H0 := Lib.hid h0
  go_enter Try.func50, Try.ntmps50
  go_wp2_with (go_at_call 83; refine (spec_LineValid _ _ hs).mono ?_; rw [h0]; rintro e w' ⟨rfl, rfl⟩)
  clear h0
  go_loopw [4, 5, 6] (fun v sp i wr => ∃ (k : Nat) (b : Bool) (out : List Tok), k ≤ s.size ∧ i = .int .i64 k ∧ sp = .bool b ∧ AtT s k b out ∧ Fresh s.size out ∧ TokRow w.heap.size v out wr ∧ Below w.heap.size w wr) (fun _ _ i _ => s.size - (intOf i).toNat)
  case atStart => exact ⟨0, false, [], by omega, rfl, rfl, AtT.zero s, Fresh.nil _, TokRow.empty _, (Below.refl _ _).alloc (Nat.le_refl _) _⟩
  case round =>
    obtain ⟨k, b, out, hk, rfl, rfl, hat, hfr, hown, hbel⟩ := hrel
    have ho : out.length ≤ 60 := hat.2
    have hbs := hbel.size
    by_cases hlt : k < s.size
    · by_cases h32 : s[k].toNat = 32
      · have HN := Lib.hid (hat.space hlt h32)
        have h32' : ((s[k].toNat : Int) == 32) = true := by simp; omega
        clear hat h32
        go_wp2
        go_roundw
        case rel => exact ⟨k + 1, true, out, by omega, by go_num, rfl, HN.out, hfr, hown, hbel⟩
        case measure => simp [intOf]; omega
      · have h32' : ((s[k].toNat : Int) == 32) = false := by simp; omega
        have hro := sCut_room hlt
        rcases cutEnd_ge s k with hneg | ⟨e, he, hke, hes⟩
        · have HF := Lib.hid (tokRes_none (hat.bad hlt h32 (.inl hneg)))
          obtain ⟨a, b2, hab, hways⟩ := cutBad hlt hneg
          rw [hab] at hro
          have HC : Hid (∀ W, Calls Try.prog 84 #[.string s, .int .i64 k] W fun e w' => e = .returned (.tuple #[.int .i64 a, .int .i64 b2]) ∧ ∃ n, w' = W.drewN n) := fun W => by have := spec_l3Cut s k W (by omega) hlt; rw [hab] at this; exact this
          clear hat h32 hab
          obtain ⟨ho1, ho2⟩ := hro
          simp only at ho1 ho2
          rcases hways with h1 | ⟨h1, h2⟩ | ⟨h1, h2, h3⟩ | ⟨h1, h2, h3⟩
          · subst h1
            go_wp2_with (go_at_call 84; refine (HC.out _).mono ?_; rintro e w' ⟨rfl, n, rfl⟩)
            go_ret2
            exact ret_no2 HF.out (belowN hbel n) hbs
          all_goals
            subst h2
            have h1' : (b2 == (k : Int)) = false := by simp; omega
            clear h1
            go_wp2_with (go_at_call 84; refine (HC.out _).mono ?_; rintro e w' ⟨rfl, n, rfl⟩)
            go_ret2
            exact ret_no2 HF.out (belowN hbel n) hbs
        · obtain ⟨a, cap, rfl, hcm⟩ := hown.slice
          obtain ⟨hab, hk1, hk2, hk3⟩ := cutGood hlt he
          have HC : Hid (∀ W, Calls Try.prog 84 #[.string s, .int .i64 k] W fun r w' => r = .returned (.tuple #[.int .i64 (cutKind s[k]), .int .i64 e]) ∧ ∃ n, w' = W.drewN n) := fun W => by have := spec_l3Cut s k W (by omega) hlt; rw [hab] at this; exact this
          have hek : ((e : Int) == (k : Int)) = false := by simp; omega
          clear hro hab
          by_cases h60 : out.length = 60
          · have HF := Lib.hid (tokRes_none (hat.bad hlt h32 (.inr h60)))
            have h60' : ((out.length : Int) == 60) = true := by simp; omega
            clear hat h32 h60
            generalize cutKind s[k] = K at *
            have hK : (K = 1 ∧ (e : Int) - (k : Int) ≤ 12) ∨ (K = 2 ∧ (e : Int) - (k : Int) ≤ 12) ∨ (K = 3 ∧ k < e) ∨ (K = 4 ∧ k < e) := by omega
            clear hk3
            rcases hK with ⟨rfl, hk5⟩ | ⟨rfl, hk5⟩ | ⟨rfl, hk5⟩ | ⟨rfl, hk5⟩
            all_goals
              go_wp2_with (go_at_call 84; refine (HC.out _).mono ?_; rintro e w' ⟨rfl, n, rfl⟩)
              go_ret2
              exact ret_no2 HF.out (belowN hbel n) hbs
          · have HN := Lib.hid (hat.tok hlt h32 he h60)
            have HR := Lib.hid (hfr.snoc (k := k) (e := e) (sp := b) (c := s[k]) (Nat.le_refl s.size))
            have h60' : ((out.length : Int) == 60) = false := by simp; omega
            have hsl2 := fun W => (run_cut s (k : Int) (e : Int) k e rfl rfl (by omega) (by omega) W)
            clear hat h32 h60
            generalize cutKind s[k] = K at *
            have hK : (K = 1 ∧ (e : Int) - (k : Int) ≤ 12) ∨ (K = 2 ∧ (e : Int) - (k : Int) ≤ 12) ∨ (K = 3 ∧ k < e) ∨ (K = 4 ∧ k < e) := by omega
            clear hk3
            rcases hK with ⟨rfl, hk5⟩ | ⟨rfl, hk5⟩ | ⟨rfl, hk5⟩ | ⟨rfl, hk5⟩
            all_goals
              go_wp2_with (first
                | (go_at_call 84; refine (HC.out _).mono ?_; rintro e w' ⟨rfl, n, rfl⟩)
                | (at_builtin; refine wp_append_tok rfl (.tmp 57) (.tmp 65) rfl w.heap.size _ out _ _ _ rfl (hown.drew _) rfl (by omega) hbs ?_; intro v1 w1 hown1 hg1))
              have hbel1 := (belowN hbel _).grown hg1 hbs hown.mine
              go_roundw
              case rel => exact ⟨e, false, _, hes, rfl, rfl, HN.out, HR.out, hown1, hbel1⟩
              case measure => simp [intOf]; omega
    · have HF := Lib.hid (tokRes_some H0.out (hat.done (by omega)))
      clear hat
      go_wp2
      go_ret2
      exact ret_toks2 HF.out hown hfr hbel

theorem spec_TokensOf (s : ByteArray) (w : World) (hs : s.size ≤ maxLen) :
    Calls Try.prog 50 #[.string s] w (TokMade (tokRes s) w) := by
  refine (spec_TokensOf_row s w hs).mono ?_
  rintro e w' ⟨v, rfl, h1, h2, h3⟩
  have hsz : (tokRes s).1 = [] ∨ s.size ≤ 200 := by
    cases h0 : lineOk s
    · left; rw [tokRes_bad h0]
    · right; exact lineOk_size' h0
  rcases hsz with h | h
  · rw [h] at h1 h2
    obtain ⟨fp, a, b, _⟩ := own_toks (B := 0) h1 (Fresh.nil _) (by omega)
    exact ⟨v, fp, rfl, by rw [h]; exact a, b, h3⟩
  · obtain ⟨fp, a, b, _⟩ := own_toks h1 h2 (by omega)
    exact ⟨v, fp, rfl, a, b, h3⟩

end Go.Proofs.Ytigbaeokccknaaa
